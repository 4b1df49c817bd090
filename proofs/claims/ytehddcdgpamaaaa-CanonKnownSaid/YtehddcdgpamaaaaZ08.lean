/- Texts of the proof, put together: what it uses. -/
import Derived.BigRegion
import Derived.Deep.WholeRow
import Derived.Test.YtehddcdgpamaaaaZ04
import Derived.Test.YtehddcdgpamaaaaZ07
set_option maxRecDepth 100000
set_option maxHeartbeats 16000000
namespace Go.Proofs.Ytehddcdgpamaaaa
open Go.RowKit Go.Maps
theorem LdL.fin {w wr : World} {g : Nat} {p : Int} {aA : Option Addr} {nA cA : Nat} {aG : Option Addr} {nG cG : Nat} {aN : Option Addr} {nN cN : Nat} {N : List Gd} {gs : List Int} {mv : Value} {rs : List Zc} {bs : List Bool}
  (h : LdL w wr g p aA nA cA aG nG cG aN nN cN N gs nA mv rs) (hl : gs.length = nA) (hB : BoSl w aA nA cA bs) (hi : ∀ r ∈ rs,∀ z ∈ r.zs,I64 z) :
  ∃ aT cT,mv = .slice aT nA cT ∧ MvS (two2 wr (w.heap.size + 1) (.slice aA nA cA) mv) aA cA aT cT nA bs (rowsG N gs (2 ^ p.toNat)) ∧ Below w.heap.size w (two2 wr (w.heap.size + 1) (.slice aA nA cA) mv) := by
 have hb : Below w.heap.size w (two2 wr (w.heap.size + 1) (.slice aA nA cA) mv) := q26 h.bel (by omega) _ _
 have hgl := h.gl
 have far : ∀ b,b ≠ w.heap.size + 1 → (two2 wr (w.heap.size + 1) (.slice aA nA cA) mv).heap[b]? = wr.heap[b]? := fun b hne => (Below.heap_setCell _ _ _ _ hne).trans (Below.heap_setCell _ _ _ _ hne)
 have hsz : (two2 wr (w.heap.size + 1) (.slice aA nA cA) mv).heap.size = wr.heap.size := by simp [two2]
 have hz := h.zs
 rw [List.take_of_length_le (by omega)] at hz
 have hrow : ∀ r ∈ rs,ZSl (two2 wr (w.heap.size + 1) (.slice aA nA cA) mv) r.a r.len r.cap r.zs ∧ ∀ z ∈ r.zs,I64 z := fun r hr => ⟨q45 (h.row r hr).1 (by rw [hsz]; exact Nat.le_refl _) (fun j hj => far _ (by have := ((h.row r hr).2 j hj).1; omega)),hi r hr⟩
 rcases h.own.2 with ⟨e,hn⟩ | ⟨gb,cap,cur,rfl,h2,h3,h4,h5,h6,h7⟩
 ·subst e; subst hn
  have : rs = [] := List.eq_nil_of_length_eq_zero h.hl
  subst this
  exact ⟨none,0,rfl,⟨hB.up hb,[],⟨rfl,Nat.le_refl _,Nat.zero_le _,fun _ => rfl,fun x hx => (by cases hx),fun r hr => (by cases hr)⟩,hz⟩,hb⟩
 ·refine ⟨some ⟨gb,0,none⟩,cap,rfl,⟨hB.up hb,rs,⟨h.hl,h4,h5,fun e => (by cases e),fun x hx k hk => ?_,hrow⟩,hz⟩,hb⟩
  injection hx with hx
  subst hx
  rw [qd,Nat.zero_add,World.cell?_of_block (far gb (by omega)),qc h3]
  have hk2 : (cur.toList.take (nA * 1))[k]? = some (.slice rs[k].a rs[k].len rs[k].cap) := by
   rw [h7]; simp [List.getElem?_eq_getElem hk]
  have hkn : k < nA := by have := h.hl; omega
  rw [List.getElem?_take,if_pos (by omega)] at hk2
  simpa using hk2
theorem q2k (p : Int) (aA : Option Addr) (nA cA : Nat) (aG : Option Addr) (nG cG : Nat) (aN : Option Addr) (nN cN : Nat) (bs : List Bool) (N : List Gd) (gs : List Int) (aS : Option Addr) (nS cS : Nat) (sts : List Int) (w : World) (hB : BoSl w aA nA cA bs) (hN : NdSl w aN nN cN N) (hG : ZSl w aG nG cG gs) (hok : ∀ z ∈ gs,I64 z) (hS : ZSl w aS nS cS sts) :
  Calls Try.prog 52 #[.agg #[.int .i64 p,.slice aA nA cA,.slice aG nG cG,.slice aN nN cN],.slice aS nS cS] w (LdR p aA nA cA bs N gs sts w) := by
 obtain ⟨Q,eQ⟩ : ∃ Q,Q = LdR p aA nA cA bs N gs sts w := ⟨_,rfl⟩
 have HA : Hid (∀ w',Below w.heap.size w w' → ¬ MayG p nA N gs → Q (.returned (.tuple #[.agg #[.slice none 0 0,.slice none 0 0],.int .i64 12])) w') := fun w' hb h => by rw [eQ]; exact ⟨hb,.inl ⟨h,rfl⟩⟩
 have HP : Hid (∀ w',Below w.heap.size w w' → MayG p nA N gs → (¬ ∀ s ∈ sts,0 ≤ s ∧ s < (nA : Int)) → Q (.returned (.tuple #[.agg #[.slice none 0 0,.slice none 0 0],.int .i64 2])) w') := fun w' hb h h2 => by rw [eQ]; exact ⟨hb,.inr (.inl ⟨h,h2,rfl⟩)⟩
 have HY : Hid (∀ w' aT cT,Below w.heap.size w w' → MayG p nA N gs → (∀ s ∈ sts,0 ≤ s ∧ s < (nA : Int)) → MvS w' aA cA aT cT nA bs (rowsG N gs (2 ^ p.toNat)) → Q (.returned (.tuple #[.agg #[.slice aA nA cA,.slice aT nA cT],.int .i64 0])) w') := fun w' aT cT hb h h2 h3 => by rw [eQ]; exact ⟨hb,.inr (.inr ⟨h,h2,aT,cT,rfl,h3⟩)⟩
 rw [← eQ]
 clear eQ
 have HA0 : Hid _ := qf w p aA nA cA aG nG cG aN nN cN
 have HB0 : Hid (Below w.heap.size w (w.alloc (.cells #[.int .i64 p,.slice aA nA cA,.slice aG nG cG,.slice aN nN cN] 26 (0,0)))) := qb w _
 have HA1 : Hid (AuB ((w.alloc (.cells #[.int .i64 p,.slice aA nA cA,.slice aG nG cG,.slice aN nN cN] 26 (0,0))).alloc (.cells #[.slice none 0 0,.slice none 0 0] 78 (0,0))) w.heap.size p aA nA cA aG nG cG aN nN cN) := HA0.out.up (qb _ _)
 have HB1 : Hid (Below w.heap.size w ((w.alloc (.cells #[.int .i64 p,.slice aA nA cA,.slice aG nG cG,.slice aN nN cN] 26 (0,0))).alloc (.cells #[.slice none 0 0,.slice none 0 0] 78 (0,0)))) := qa HB0.out (qb _ _)
 have HR1 : Hid (MvB ((w.alloc (.cells #[.int .i64 p,.slice aA nA cA,.slice aG nG cG,.slice aN nN cN] 26 (0,0))).alloc (.cells #[.slice none 0 0,.slice none 0 0] 78 (0,0))) (w.heap.size + 1) (.slice none 0 0) (.slice none 0 0)) := by
  have := qL (w.alloc (.cells #[.int .i64 p,.slice aA nA cA,.slice aG nG cG,.slice aN nN cN] 26 (0,0))) (.slice none 0 0) (.slice none 0 0)
  show MvB _ _ _ _; simpa using this
 have jc := q12 p aA nA cA aG nG cG aN nN cN N gs _ (hN.up HB1.out) (hG.up HB1.out) hok
 obtain ⟨c0,c1,c2,c3⟩ := HA1.out
 have HHB : Hid _ := hB
 have HHN : Hid _ := hN
 have HHG : Hid _ := hG
 have HOK : Hid _ := hok
 have HHS : Hid _ := hS
 clear HA0 HB0 hB hN hG hok hS
 go_enter Try.func52,Try.ntmps52
 go_wp2_with fail
 refine jc.mono ?_
 rintro e w2 ⟨hb2,v2,rfl,hv2⟩
 have HB2 : Hid (Below w.heap.size w w2) := qa HB1.out hb2
 have HA2 : Hid (AuB w2 w.heap.size p aA nA cA aG nG cG aN nN cN) := HA1.out.up hb2
 have HR2 : Hid (MvB w2 (w.heap.size + 1) (.slice none 0 0) (.slice none 0 0)) := HR1.out.up hb2
 clear jc hb2 HA1 HB1 HR1 c0 c1 c2 c3
 have z0 := HR2.out.c0
 have z1 := HR2.out.c1
 have f0 := HR2.out.fz 0
 have f1 := HR2.out.fz 1
 rcases hv2 with ⟨rfl,hM⟩ | ⟨rfl,hM⟩
 ·have HM : Hid _ := hM
  have hbs := Nat.le_trans HHS.out.hcap HHS.out.bd
  have hbG := Nat.le_trans HHG.out.hcap HHG.out.bd
  unfold maxLen at hbs hbG
  clear z0 z1 f0 f1 hM
  go_wp2
  go_loopw [22] (fun i wr => ∃ k : Nat,k ≤ nS ∧ i = .int .i64 (k : Int) ∧ wr = w2 ∧ Hid (∀ j,j < k → 0 ≤ sts.getD j 0 ∧ sts.getD j 0 < (nA : Int))) (fun i _ => nS - (intOf i).toNat)
  case atStart => exact ⟨0,Nat.zero_le _,rfl,rfl,fun j hj => absurd hj (by omega)⟩
  case round =>
   obtain ⟨k,hk,rfl,rfl,HK⟩ := hrel
   by_cases hlt : k < nS
   ·have hidx := fun w' => HHS.out.idx nS k w' hlt (Nat.le_refl _)
    have hce := (HHS.out.up HB2.out).cell k hlt
    have hks : k < sts.length := by have := HHS.out.hlen; omega
    have HIN : Hid (sts.getD k 0 ∈ sts) := by show _ ∈ _; rw [List.getD_eq_getElem?_getD,List.getElem?_eq_getElem hks]; exact List.getElem_mem hks
    have c1 := HA2.out.c1
    generalize hz : sts.getD k 0 = z at *
    have HZ : Hid _ := hz
    clear hz
    generalize adOf aS k = ad at *
    obtain ⟨ag,ao,az⟩ := ad
    by_cases hneg : z < 0 ∨ (nA : Int) ≤ z
    ·have HE : Hid _ := HP.out (two2 wr (w.heap.size + 1) (.slice none 0 0) (.slice none 0 0)) (q26 HB2.out (by omega) _ _) HM.out (fun h => by have := h z HIN.out; omega)
     have z0 := HR2.out.c0
     have z1 := HR2.out.c1
     have f0 := HR2.out.fz 0
     have f1 := HR2.out.fz 1
     clear HA HP HY HK
     by_cases hn : z < 0
     ·clear hneg
      go_wp2
      refine bodyPost_ret (v := .tuple #[.agg #[.slice none 0 0,.slice none 0 0],.int .i64 2]) (by simp [results,Try.results52,go_sem,z0,z1]) rfl ?_
      exact HE.out
     ·have hn2 : (nA : Int) ≤ z := by omega
      clear hneg
      go_wp2
      refine bodyPost_ret (v := .tuple #[.agg #[.slice none 0 0,.slice none 0 0],.int .i64 2]) (by simp [results,Try.results52,go_sem,z0,z1]) rfl ?_
      exact HE.out
    ·have hn1 : ¬ z < 0 := by omega
     have hn2 : ¬ (nA : Int) ≤ z := by omega
     have HK2 : Hid (∀ j,j < k + 1 → 0 ≤ sts.getD j 0 ∧ sts.getD j 0 < (nA : Int)) := fun j hj => by
      by_cases e : j = k
      ·rw [e,HZ.out]; omega
      ·exact HK.out j (by omega)
     clear hneg HK HA HP HY
     go_wp2
     go_roundw
     case rel => exact ⟨k + 1,by omega,by go_num,trivial,HK2⟩
     case measure => simp [intOf]; omega
   ·obtain rfl : k = nS := by omega
    have HST : Hid (∀ s ∈ sts,0 ≤ s ∧ s < (nA : Int)) := fun s hs => by
     obtain ⟨j,hj,rfl⟩ := List.getElem_of_mem hs
     have := HK.out j (by have := HHS.out.hlen; omega)
     rwa [List.getD_eq_getElem?_getD,List.getElem?_eq_getElem hj] at this
    have c1 := HA2.out.c1
    have HLN : Hid (gs.length = nG) := HHG.out.hlen
    have HnG : Hid (nG = nA) := HHG.out.hlen.symm.trans HM.out.len
    have hn256 : nG ≤ 256 := by have := HM.out.s2; have := HnG.out; omega
    have hgs : w.heap.size + 2 ≤ wr.heap.size := by have := HR2.out.lt; omega
    have HL0 : Hid (LdL w (wr.alloc (.cells #[.slice aA nA cA,.slice none 0 0] 78 (0,0))) wr.heap.size p aA nA cA aG nG cG aN nN cN N gs 0 (.slice none 0 0) []) :=
     ⟨HA2.out.up (qb _ _),HR2.out.up (qb _ _),qL _ _ _,hgs,qa HB2.out (qb _ _),rfl,⟨rfl,.inl ⟨rfl,rfl⟩⟩,rfl,fun r hr => by cases hr⟩
    have c2 := HL0.out.au.c2
    clear HK HA HP HA2 HR2 HB2 HHS hbs hlt hk
    have HGS : Hid _ := hgs
    clear hgs
    go_wp2
    generalize wr.heap.size = gm at *
    generalize wr.alloc (.cells #[.slice aA nA cA,.slice none 0 0] 78 (0,0)) = w4 at *
    clear c1 c2
    go_loopw [43] (fun i wx => ∃ (k : Nat) (mv : Value) (rs : List Zc),k ≤ nG ∧ i = .int .i64 (k : Int) ∧ Hid (LdL w wx gm p aA nA cA aG nG cG aN nN cN N gs k mv rs) ∧ Hid (∀ r ∈ rs,∀ z ∈ r.zs,I64 z)) (fun i _ => nG - (intOf i).toNat)
    case atStart => exact ⟨0,_,[],Nat.zero_le _,rfl,HL0,fun r hr => by cases hr⟩
    case round =>
     clear HL0
     obtain ⟨k,mv,rs,hk,rfl,HL,HI⟩ := hrel
     by_cases hlt : k < nG
     ·have hks : k < gs.length := by have := HLN.out; omega
      have hidx := fun w' => HHG.out.idx nG k w' hlt (Nat.le_refl _)
      have hce := (HHG.out.up HL.out.bel).cell k hlt
      have hkA : k < nA := by have := HnG.out; omega
      have hi64 := HOK.out (gs.getD k 0) (by rw [List.getD_eq_getElem?_getD,List.getElem?_eq_getElem hks]; exact List.getElem_mem hks)
      have jt := q4X p aN nN cN N (gs.getD k 0) wr (HHN.out.up HL.out.bel) hi64
      have HT : Hid (∀ e w6,TabRN p N (gs.getD k 0) wr e w6 → ∃ a len c,e = .returned (.tuple #[.slice a len c,.int .i64 0]) ∧ Below wr.heap.size wr w6 ∧ ZSl w6 a len c ((rowG N (2 ^ p.toNat) (gs.getD k 0)).map Int.ofNat) ∧ ∀ j,j < len → wr.heap.size ≤ (adOf a j).block) := fun e w6 hq => by
       have ht := HM.out.tab (K := 2 ^ p.toNat) hkA
       rw [q17 hks] at ht
       obtain ⟨hb,⟨h1,_⟩ | ⟨_,_,⟨h3,_⟩ | ⟨l,a,c,h3,rfl,h4,h5⟩⟩⟩ := hq
       ·exact absurd ⟨HM.out.p0,HM.out.p8⟩ h1
       ·rw [ht] at h3; cases h3
       ·rw [ht] at h3; injection h3 with h3; subst h3
        exact ⟨a,_,c,rfl,hb,h4,h5⟩
      have HR64 : Hid (∀ z ∈ (rowG N (2 ^ p.toNat) (gs.getD k 0)).map Int.ofNat,I64 z) := fun z hz => by
       obtain ⟨v,hv,rfl⟩ := List.mem_map.1 hz
       have hr := HM.out.rows (2 ^ p.toNat)
       obtain ⟨x,hx,rfl⟩ := List.getElem_of_mem hv
       have h1 := hr.lt k x hkA (by rw [q24] at hx; exact hx)
       rw [trP,q17 hks,List.getD_eq_getElem?_getD,List.getElem?_eq_getElem hx] at h1
       have := HM.out.s2
       simp only [Option.getD_some] at h1
       generalize (rowG N (2 ^ p.toNat) (gs.getD k 0))[x] = v at *
       have e : Int.ofNat v = (v : Int) := rfl
       exact ⟨by omega,by omega⟩
      obtain ⟨va,vc,rfl⟩ := qn HL.out.own
      have HS : Hid (∀ w6 (y : Option Addr) (ly cy : Nat),Below wr.heap.size wr w6 → (w6.alloc (.cells #[.slice y ly cy] 23)).ownsRow (gm + 1) 23 1 (.slice va k vc) k (rs.map fun r => .slice r.a r.len r.cap) ∧ (w6.alloc (.cells #[.slice y ly cy] 23)).cell? ⟨w6.heap.size,0,none⟩ = some (.slice y ly cy) ∧ gm + 1 ≤ (w6.alloc (.cells #[.slice y ly cy] 23)).heap.size) := fun w6 y ly cy hb =>
       ⟨World.ownsRow.alloc (qv HL.out.own hb) _,qc (MapKept.heap_alloc w6 _).1 0,by have := HL.out.mb.lt; have := hb.size; simp; omega⟩
      have a0 := HL.out.au.c0
      have a3 := HL.out.au.c3
      generalize hz : gs.getD k 0 = z at *
      have HZ : Hid _ := hz
      clear hz hi64
      generalize adOf aG k = ad at *
      obtain ⟨ag,ao,az⟩ := ad
      clear HY HHB HHN HHG HOK HLN HnG HGS HM HST
      go_wp2_with fail
      refine jt.mono ?_
      intro e w6 hq
      obtain ⟨y,ly,cy,rfl,hb6,hz6,hn6⟩ := HT.out e w6 hq
      obtain ⟨hs1,hs2,hs3⟩ := HS.out w6 y ly cy hb6
      have HO6 : Hid _ := hs1
      have HB6 : Hid _ := hb6
      have HZ6 : Hid _ := hz6
      have HN6 : Hid _ := hn6
      have m1 : w6.cell? ⟨gm,1,none⟩ = some (.slice va k vc) := (HL.out.mb.up hb6).c1
      clear hq jt HT HS hs1 hb6 hz6 hn6 a0 a3 hidx hce
      go_wp2_with (at_builtin; refine q3w rfl _ _ rfl (gm + 1) _ k _ rfl HO6.out w6.heap.size y ly cy rfl hs2 (by omega) hs3 ?_)
      intro gv cv w7 hown hgr hlies
      have hzz : ZSl w6 y ly cy ((rowG N (2 ^ p.toNat) (gs.getD k 0)).map Int.ofNat) := by rw [HZ.out]; exact HZ6.out
      have HL7 : Hid _ := HL.out.next hks HB6.out hzz HN6.out hown hgr (by simpa using hlies)
      have hgm : gm < (w6.alloc (.cells #[.slice y ly cy] 23)).heap.size := by omega
      have hbk : w7.heap[gm]? = some (.cells #[.slice aA nA cA,.slice va k vc] 78 (0,0)) := by
       have h1 := (HL.out.mb.up HB6.out).up (qb w6 (.cells #[.slice y ly cy] 23))
       exact (hgr.block gm hgm (fun e => by have := qz HL.out.own gm e.symm; omega)).trans h1
      have m1 : w7.cell? ⟨gm,1,none⟩ = some (.slice va k vc) := qc hbk 1
      have mf : w7.frozen? ⟨gm,1,none⟩ = false := frozen_of_row w7 gm 1 _ _ hbk
      have HI7 : Hid (∀ r ∈ rs ++ [⟨y,ly,cy,(rowG N (2 ^ p.toNat) (gs.getD k 0)).map Int.ofNat⟩],∀ z ∈ r.zs,I64 z) := fun r hr => by
       rcases List.mem_append.1 hr with hr | hr
       ·exact HI.out r hr
       ·simp only [List.mem_singleton] at hr
        subst hr
        rw [HZ.out]
        exact HR64.out
      clear hown hgr hlies hzz hbk hgm HO6 HB6 HZ6 HN6 HL HI hs2 hs3 HZ
      go_wp2
      go_roundw
      case rel => exact ⟨k + 1,_,_,by omega,by go_num,HL7,HI7⟩
      case measure => simp [intOf]; omega
     ·obtain rfl : k = nG := by omega
      have c0 := HL.out.mb.c0
      have c1 := HL.out.mb.c1
      have z0 := HL.out.rz.c0
      have z1 := HL.out.rz.c1
      have f0 := HL.out.rz.fz 0
      have f1 := HL.out.rz.fz 1
      have hL := HL.out
      rw [HnG.out] at hL
      obtain ⟨aT,cT,rfl,hm,hbm⟩ := hL.fin HM.out.len HHB.out HI.out
      have HE : Hid _ := HY.out _ aT cT hbm HM.out HST.out hm
      have hne : ¬ gm = w.heap.size + 1 := by have := HL.out.gl; omega
      clear hL hm hbm HY HL HI HM HST HHB HHN HHG HOK HLN HnG HGS
      go_wp2
      refine bodyPost_ret (v := .tuple #[.agg #[.slice aA nA cA,.slice aT nA cT],.int .i64 0]) (by simp [results,Try.results52,go_sem,z0,z1]) rfl ?_
      exact HE.out
 ·have HE : Hid _ := HA.out (two2 w2 (w.heap.size + 1) (.slice none 0 0) (.slice none 0 0)) (q26 HB2.out (by omega) _ _) hM
  clear HP HY HA hM
  go_wp2
  refine bodyPost_ret (v := .tuple #[.agg #[.slice none 0 0,.slice none 0 0],.int .i64 12]) (by simp [results,Try.results52,go_sem,z0,z1]) rfl ?_
  exact HE.out
theorem q4Z : (Try.prog.info? 39).map (fun i => (i.zero,i.size,i.bytes)) = some (some (.int .u8 0),1,1) := by kernel_rfl
theorem q2o : (Try.prog.info? 39).map (·.size) = some 1 := by kernel_rfl
abbrev ltV (l : List Nat) : List Value := l.map fun (x : Nat) => Value.int .u8 (x : Int)
def sgA (xs : List Nat) : Array Value := (xs.map fun (x : Nat) => Value.int .u8 (x : Int)).toArray
theorem qj (xs : List Nat) : (sgA xs).size = xs.length := by simp [sgA]
theorem q42 (xs : List Nat) {i : Nat} (h : i < xs.length) : (sgA xs)[i]? = some (.int .u8 ((xs.getD i 0 : Nat) : Int)) := by
 simp [sgA,List.getD_eq_getElem?_getD,List.getElem?_eq_getElem h]
theorem q62 (xs : List Nat) (i x : Nat) : (sgA xs).setIfInBounds i (.int .u8 (x : Int)) = sgA (xs.set i x) := by
 simp [sgA,List.map_set]
theorem q61 (xs : List Nat) : (sgA xs).all (·.oneCell') = true := by
 rw [Array.all_eq_true]
 intro i hi
 have hi' : i < xs.length := by rwa [qj] at hi
 have := q42 xs hi'
 rw [Array.getElem?_eq_some_iff] at this
 rw [this.2]
 rfl
theorem q7Y {xs ys : List Nat} (h : sgA xs = sgA ys) : xs = ys := by
 have h1 := congrArg Array.toList h
 unfold sgA at h1
 refine (List.map_inj_right (f := fun (x : Nat) => Value.int .u8 (x : Int)) (fun a b e => ?_)).1 h1
 injection e with _ e
 exact Int.ofNat.inj e
theorem q39 : (Try.prog.info? 103).map (fun i => (i.zero,i.size)) = some (some (.agg (Array.replicate 257 (.int .u8 0))),257) := by kernel_rfl
theorem q7w : sgA (List.replicate 257 0) = Array.replicate 257 (.int .u8 0) := by
 apply Array.ext_getElem?
 intro i
 by_cases hi : i < 257
 ·rw [q42 _ (by rw [List.length_replicate]; exact hi),Array.getElem?_replicate,if_pos hi,List.getD_eq_getElem?_getD,List.getElem?_replicate,if_pos hi]
  rfl
 ·rw [Array.getElem?_eq_none (by rw [qj,List.length_replicate]; omega),Array.getElem?_eq_none (by rw [Array.size_replicate]; omega)]
theorem ql : (Try.prog.info? 103).map (·.size) = some 257 := (zero_of_info q39).2
theorem q13 (w : World) : (zeroValue 103).run Try.prog w = .ok (.agg (sgA (List.replicate 257 0))) w := by rw [q7w]; exact (zero_of_info q39).1 w
theorem q57 : Try.prog.built 103 [] = some (sgA (List.replicate 257 0)) := by kernel_rfl
theorem q5C (x : Int) : Try.prog.built 103 [(0,.int .u8 x)] = some ((sgA (List.replicate 257 0)).setIfInBounds 0 (.int .u8 x)) := by kernel_rfl
theorem q56 (w : World) : (Instr.build 103 #[]).run Try.prog w = .ok (.agg (sgA (List.replicate 257 0))) w := run_build w _ _ _ q57
theorem q2Z (x : Nat) : (sgA (List.replicate 257 0)).setIfInBounds 0 (.int .u8 (x : Int)) = sgA (x :: List.replicate 256 0) := by
 rw [q62]; rfl
theorem q5B (x : Nat) (w : World) : (Instr.build 103 #[(0,.int .u8 (x : Int))]).run Try.prog w = .ok (.agg (sgA (x :: List.replicate 256 0))) w := by
 rw [← q2Z]; exact run_build w _ _ _ (q5C x)
theorem q6z (g x : Nat) (hx : x < 257) (w : World) : (Instr.indexAt 103 (.pointer (some ⟨g,0,none⟩)) (.int .i64 (x : Int))).run Try.prog w = .ok (.pointer (some ⟨g,x,none⟩)) w := by
 simp [Instr.indexAt,run_underlying Try.underlying103,asIntOf,q3r (show (Try.prog.info? 5).map (·.size) = some 1 by kernel_rfl),hx,Result.andThen,go_sem,qd]
def SgB (w : World) (g : Nat) (xs : List Nat) : Prop := w.heap[g]? = some (.cells (sgA xs) 103 (0,0))
theorem SgB.lt {w : World} {g : Nat} {xs : List Nat} (h : SgB w g xs) : g < w.heap.size := (Array.getElem?_eq_some_iff.1 h).1
theorem SgB.up {w w' : World} {g : Nat} {xs : List Nat} (h : SgB w g xs) (hb : Below w.heap.size w w') : SgB w' g xs := (hb.block g h.lt).trans h
theorem SgB.load {w : World} {g : Nat} {xs : List Nat} (h : SgB w g xs) (hl : xs.length = 257) : (Instr.loadAt 103 (.pointer (some ⟨g,0,none⟩))).run Try.prog w = .ok (.agg (sgA xs)) w := by
 simp only [Instr.loadAt,Instr.sureAddr,Sem.run_bind,Sem.run_pure,Result.andThen]
 exact run_loadVar_row w g _ _ (sgA xs) (0,0) _ h Try.underlying103 rfl (by rw [qj,hl]; exact ql)
theorem SgB.store {w : World} {g : Nat} {xs ys : List Nat} (h : SgB w g xs) (hl : xs.length = 257) (hy : ys.length = 257) : (Instr.storeAt 103 (.pointer (some ⟨g,0,none⟩)) (.agg (sgA ys))).run Try.prog w = .ok () (w.setRow g (sgA ys)) := by
 simp only [Instr.storeAt,Instr.sureAddr,Sem.run_bind,Sem.run_pure,Result.andThen]
 exact run_storeVar_row w g _ _ (sgA xs) (sgA ys) h (by rw [qj,hy]; exact ql) (by rw [qj,qj,hl,hy]) (q61 ys)
theorem SgB.cells {w : World} {g : Nat} {xs ys : List Nat} (h : SgB w g xs) (hl : xs.length = 257) (hy : ys.length = 257) : (storeCells ⟨g,0,none⟩ (sgA ys).toList).run Try.prog w = .ok () (w.setRow g (sgA ys)) := by
 have := run_storeVar_row (P := Try.prog) w g _ 103 (sgA xs) (sgA ys) h (by rw [qj,hy]; exact ql) (by rw [qj,qj,hl,hy]) (q61 ys)
 cases hq : Try.prog.info? 103 with
 | none => have := ql; simp [hq] at this
 | some i =>
  have hs : (sgA ys).size = i.size := by have := ql; simp [hq] at this; rw [qj]; omega
  simpa [storeVar,sizeOf,typeInfo,hq,Value.cells,hs] using this
theorem SgB.row {w : World} {g : Nat} {xs ys : List Nat} (h : SgB w g xs) : SgB (w.setRow g (sgA ys)) g ys := setRow_heap _ _ _ _ _ _ h
def SigQ (xs : List Nat) (w : World) (e : Ending) (w' : World) : Prop := e = .returned (.agg (sgA xs)) ∧ Below w.heap.size w w'
theorem q50 (aA : Option Addr) (cA : Nat) (aT : Option Addr) (cT n : Nat) (bs : List Bool) (R : List (List Nat)) (s : Nat) (w : World) (hM : MvS w aA cA aT cT n bs R) (hs : s < n) :
  Calls Try.prog 74 #[.agg #[.slice aA n cA,.slice aT n cT],.int .i64 (s : Int)] w (SigQ (kindP bs s) w) := by
 have hz := fun w => q13 w
 have hb0 := fun w => q56 w
 have hb1 := fun w => q5B 1 w
 have HB1 : Hid (Below w.heap.size w ((w.alloc (.cells #[.slice aA n cA,.slice aT n cT] 78 (0,0))).alloc (.cells (sgA (List.replicate 257 0)) 103 (0,0)))) := qa (qb w _) (qb _ _)
 have HV1 : Hid (SgB ((w.alloc (.cells #[.slice aA n cA,.slice aT n cT] 78 (0,0))).alloc (.cells (sgA (List.replicate 257 0)) 103 (0,0))) (w.heap.size + 1) (List.replicate 257 0)) := by
  have := (MapKept.heap_alloc (w.alloc (.cells #[.slice aA n cA,.slice aT n cT] 78 (0,0))) (.cells (sgA (List.replicate 257 0)) 103 (0,0))).1
  show SgB _ _ _
  simpa [SgB] using this
 have HM1 : Hid (MvB ((w.alloc (.cells #[.slice aA n cA,.slice aT n cT] 78 (0,0))).alloc (.cells (sgA (List.replicate 257 0)) 103 (0,0))) w.heap.size (.slice aA n cA) (.slice aT n cT)) := (qL w _ _).up (qb _ _)
 obtain ⟨hix0,hce⟩ := (hM.bo.up HB1.out).at s hs
 have hix := fun w' => hix0 n w' hs
 have hsl : s < bs.length := by have := hM.bo.hlen; omega
 have hgd : bs.getD s false = bs[s] := by rw [List.getD_eq_getElem?_getD,List.getElem?_eq_getElem hsl]; rfl
 have HK : Hid (∀ b,bs[s] = b → kindP bs s = (if b then 1 else 0) :: List.replicate 256 0) := fun b hb => by unfold kindP; rw [hgd,hb]
 generalize bs[s] = b at *
 have HKB : Hid _ := HK.out b rfl
 generalize adOf aA s = ad at *
 obtain ⟨ag,ao,az⟩ := ad
 have m0 := HM1.out.c0
 obtain ⟨Y,hY⟩ : ∃ Y,Y = kindP bs s := ⟨_,rfl⟩
 rw [← hY]
 rw [← hY] at HKB
 have HLY : Hid (Y.length = 257) := by show _ = _; rw [hY,q4h]
 clear hY HK hM hix0 hsl hgd
 obtain ⟨Z,hZ⟩ : ∃ Z : List Nat,Z = List.replicate 257 0 := ⟨_,rfl⟩
 have HLZ : Hid (Z.length = 257) := by show _ = _; rw [hZ,List.length_replicate]
 have HZB : Hid (b = false → Y = Z) := fun h => by rw [HKB.out,h,hZ]; rfl
 obtain ⟨O,hO⟩ : ∃ O : List Nat,O = 1 :: List.replicate 256 0 := ⟨_,rfl⟩
 have HOB : Hid (b = true → Y = O) := fun h => by rw [HKB.out,h,hO]; rfl
 simp only [Int.cast_ofNat_Int] at hb1
 rw [← hZ] at HV1 HM1 HB1 hz hb0 m0 hce
 rw [← hO] at hb1
 have hset : (sgA Z).setIfInBounds 0 (.int .u8 1) = sgA O := by rw [hZ,hO]; exact q2Z 1
 clear hZ hO HKB
 have hsz : (sgA Z).size = 257 := by rw [qj]; exact HLZ.out
 have hne : ¬ sgA Z = #[] := fun e => by rw [e] at hsz; cases hsz
 have hsy : (sgA Y).size = 257 := by rw [qj]; exact HLY.out
 have HE : Hid (SigQ Y w (.returned (.agg (sgA Y))) ((((w.alloc (.cells #[.slice aA n cA,.slice aT n cT] 78 (0,0))).alloc (.cells (sgA Z) 103 (0,0)))).setRow (w.heap.size + 1) (sgA Y))) := ⟨rfl,qm HB1.out (by omega) _⟩
 have HVY : Hid (SgB ((((w.alloc (.cells #[.slice aA n cA,.slice aT n cT] 78 (0,0))).alloc (.cells (sgA Z) 103 (0,0)))).setRow (w.heap.size + 1) (sgA Y)) (w.heap.size + 1) Y) := HV1.out.row
 cases b with
 | true =>
  obtain rfl := HOB.out rfl
  have hst := HV1.out.store HLZ.out HLY.out
  have hsc := HV1.out.cells HLZ.out HLY.out
  clear HZB HOB
  go_enter Try.func74,Try.ntmps74
  go_wp2
  refine bodyPost_ret (v := .agg (sgA Y)) ?_ rfl HE.out
  exact results_cell_row Try.results74 _ _ (w.heap.size + 1) 103 (sgA Y) (0,0) _ rfl HVY.out Try.underlying103 rfl (by rw [hsy]; exact ql)
 | false =>
  obtain rfl := HZB.out rfl
  have hst := HV1.out.store HLZ.out HLZ.out
  have hsc := HV1.out.cells HLZ.out HLZ.out
  clear HZB HOB
  go_enter Try.func74,Try.ntmps74
  go_wp2
  refine bodyPost_ret (v := .agg (sgA Y)) ?_ rfl HE.out
  exact results_cell_row Try.results74 _ _ (w.heap.size + 1) 103 (sgA Y) (0,0) _ rfl HVY.out Try.underlying103 rfl (by rw [hsy]; exact ql)
def sgTo (c row : List Nat) (x k : Nat) : List Nat := (x :: (row.take k).map fun t => c.getD t 0) ++ List.replicate (256 - k) 0
theorem q7y {c row : List Nat} {x k : Nat} (hk : k ≤ row.length) (h : row.length ≤ 256) : (sgTo c row x k).length = 257 := by
 rw [sgTo,List.length_append,List.length_cons,List.length_map,List.length_take,List.length_replicate]
 omega
theorem q6U (c row : List Nat) (x : Nat) : sgTo c row x 0 = x :: List.replicate 256 0 := rfl
theorem q6T {c row : List Nat} {x k : Nat} (hk : k < row.length) (h : row.length ≤ 256) : (sgTo c row x k).set (1 + k) (c.getD (row.getD k 0) 0) = sgTo c row x (k + 1) := by
 have hl : (x :: (row.take k).map fun t => c.getD t 0).length = 1 + k := by
  rw [List.length_cons,List.length_map,List.length_take]; omega
 have hr : List.replicate (256 - k) 0 = 0 :: List.replicate (256 - (k + 1)) 0 := by
  rw [show 256 - k = (256 - (k + 1)) + 1 by omega]; rfl
 rw [sgTo,List.set_append_right _ _ (by omega),hl,Nat.sub_self,hr,List.set_cons_zero,sgTo,List.take_add_one,List.getElem?_eq_getElem hk,Option.toList_some,List.map_append,List.getD_eq_getElem?_getD (l := row),List.getElem?_eq_getElem hk]
 simp
theorem q7x (R : List (List Nat)) (c : List Nat) (s : Nat) : sgTo c (R.getD s []) (c.getD s 0) (R.getD s []).length = sigP R c s := by
 rw [sgTo,sigP,List.take_of_length_le (Nat.le_refl _)]
theorem qy {l : List Nat} {k : Nat} (h : k < l.length) : (l.map Int.ofNat).getD k 0 = ((l.getD k 0 : Nat) : Int) := by
 simp [List.getD_eq_getElem?_getD,List.getElem?_eq_getElem h]
theorem q5D (aA : Option Addr) (cA : Nat) (aT : Option Addr) (cT n K : Nat) (bs : List Bool) (R : List (List Nat)) (aC : Option Addr) (cC : Nat) (c : List Nat) (s : Nat) (w : World) (hM : MvS w aA cA aT cT n bs R) (hR : RowsP n K R) (hK : K ≤ 256) (hC : ZSl w aC n cC (c.map Int.ofNat)) (hc : ∀ t,t < n → c.getD t 0 < 256) (hs : s < n) :
  Calls Try.prog 76 #[.agg #[.slice aA n cA,.slice aT n cT],.slice aC n cC,.int .i64 (s : Int)] w (SigQ (sigP R c s) w) := by
 have hz := fun w => q13 w
 have hcl : c.length = n := by have := hC.hlen; simpa using this
 have hrl := hR.row s hs
 obtain ⟨X,hX⟩ : ∃ X,X = c.getD s 0 := ⟨_,rfl⟩
 have hX8 : X < 256 := by rw [hX]; exact hc s hs
 have hXm : (X : Int) % 256 = X := by omega
 obtain ⟨Z,hZ⟩ : ∃ Z : List Nat,Z = List.replicate 257 0 := ⟨_,rfl⟩
 have HLZ : Hid (Z.length = 257) := by show _ = _; rw [hZ,List.length_replicate]
 have hset : (sgA Z).setIfInBounds 0 (.int .u8 (X : Int)) = sgA (sgTo c (R.getD s []) X 0) := by rw [hZ,q6U]; exact q2Z X
 have hsz : (sgA Z).size = 257 := by rw [qj]; exact HLZ.out
 have hne : ¬ sgA Z = #[] := fun e => by rw [e] at hsz; cases hsz
 obtain ⟨Y,hY⟩ : ∃ Y,Y = sigP R c s := ⟨_,rfl⟩
 rw [← hY]
 have HYE : Hid (sgTo c (R.getD s []) X K = Y) := by show _ = _; rw [hY,hX,← hrl]; exact q7x R c s
 have HLT : Hid (∀ k,k ≤ K → (sgTo c (R.getD s []) X k).length = 257) := fun k hk => q7y (by omega) (by omega)
 have HNX : Hid (∀ k,k < K → (sgTo c (R.getD s []) X k).set (1 + k) (c.getD ((R.getD s []).getD k 0) 0) = sgTo c (R.getD s []) X (k + 1)) := fun k hk => q6T (by omega) (by omega)
 have HLR : Hid (∀ k,k < K → (R.getD s []).getD k 0 < n) := fun k hk => hR.lt s k hs hk
 rw [← hZ] at hz
 obtain ⟨X0,hX0⟩ : ∃ X0,X0 = sgTo c (R.getD s []) X 0 := ⟨_,rfl⟩
 rw [← hX0] at hset
 have hs0 : (sgA X0).size = 257 := by rw [qj,hX0]; exact HLT.out 0 (Nat.zero_le _)
 have HX0 : Hid (X0 = sgTo c (R.getD s []) X 0) := hX0
 have hsc : c.map Int.ofNat = c.map Int.ofNat := rfl
 have HHC : Hid _ := hC
 have HCL : Hid _ := hcl
 have HCC : Hid _ := hc
 have W1 : Hid (Below w.heap.size w ((w.alloc (.cells #[.slice aA n cA,.slice aT n cT] 78 (0,0))).alloc (.cells (sgA Z) 103 (0,0)))) := qa (qb w _) (qb _ _)
 have hix := fun w' => hC.idx n s w' hs (Nat.le_refl _)
 have hce := (hC.up W1.out).cell s hs
 rw [qy (by omega),← hX] at hce
 have h2 : SgB ((w.alloc (.cells #[.slice aA n cA,.slice aT n cT] 78 (0,0))).alloc (.cells (sgA Z) 103 (0,0))) (w.heap.size + 1) Z := by
  have := (MapKept.heap_alloc (w.alloc (.cells #[.slice aA n cA,.slice aT n cT] 78 (0,0))) (.cells (sgA Z) 103 (0,0))).1
  simpa [SgB] using this
 have h3 : SgB (((w.alloc (.cells #[.slice aA n cA,.slice aT n cT] 78 (0,0))).alloc (.cells (sgA Z) 103 (0,0))).alloc (.cells (sgA Z) 103 (0,0))) (w.heap.size + 2) Z := by
  have := (MapKept.heap_alloc ((w.alloc (.cells #[.slice aA n cA,.slice aT n cT] 78 (0,0))).alloc (.cells (sgA Z) 103 (0,0))) (.cells (sgA Z) 103 (0,0))).1
  simpa [SgB] using this
 have hl0 : X0.length = 257 := by rw [hX0]; exact HLT.out 0 (Nat.zero_le _)
 have hst := h3.cells HLZ.out hl0
 have hb4 : Below w.heap.size w ((((w.alloc (.cells #[.slice aA n cA,.slice aT n cT] 78 (0,0))).alloc (.cells (sgA Z) 103 (0,0))).alloc (.cells (sgA Z) 103 (0,0))).setRow (w.heap.size + 2) (sgA X0)) := qm (qa W1.out (qb _ _)) (by omega) _
 have HBA : Hid (Below w.heap.size w ((((w.alloc (.cells #[.slice aA n cA,.slice aT n cT] 78 (0,0))).alloc (.cells (sgA Z) 103 (0,0))).alloc (.cells (sgA Z) 103 (0,0))).setRow (w.heap.size + 2) (sgA X0))) := hb4
 have HV2 : Hid (SgB ((((w.alloc (.cells #[.slice aA n cA,.slice aT n cT] 78 (0,0))).alloc (.cells (sgA Z) 103 (0,0))).alloc (.cells (sgA Z) 103 (0,0))).setRow (w.heap.size + 2) (sgA X0)) (w.heap.size + 2) X0) := h3.row
 have HV1 : Hid (SgB ((((w.alloc (.cells #[.slice aA n cA,.slice aT n cT] 78 (0,0))).alloc (.cells (sgA Z) 103 (0,0))).alloc (.cells (sgA Z) 103 (0,0))).setRow (w.heap.size + 2) (sgA X0)) (w.heap.size + 1) Z) := (setRow_other _ _ _ _ (by omega)).trans (h2.up (qb _ _))
 have HM1 : MvB ((((w.alloc (.cells #[.slice aA n cA,.slice aT n cT] 78 (0,0))).alloc (.cells (sgA Z) 103 (0,0))).alloc (.cells (sgA Z) 103 (0,0))).setRow (w.heap.size + 2) (sgA X0)) w.heap.size (.slice aA n cA) (.slice aT n cT) := (setRow_other _ _ _ _ (by omega)).trans (((qL w (.slice aA n cA) (.slice aT n cT)).up (qb _ (.cells (sgA Z) 103 (0,0)))).up (qb _ (.cells (sgA Z) 103 (0,0))))
 have m1 := HM1.c1
 obtain ⟨rg,ro,rz,ra,rl,rc,hrx,hrc,hrz⟩ := hM.row hs
 have hrc := qe hrc (hb4)
 have hrlen : rl = K := by have := hrz.hlen; rw [List.length_map,hrl] at this; exact this.symm
 subst hrlen
 have HRZ : Hid (ZSl w ra rl rc ((R.getD s []).map Int.ofNat)) := hrz
 clear h2 h3 hb4 hl0
 generalize adOf aC s = ad at *
 obtain ⟨ag,ao,az⟩ := ad
 clear hC hcl hc hY hX hZ hX0 hM hR hrl HM1 W1 hrz hsc
 go_enter Try.func76,Try.ntmps76
 go_wp2
 generalize hwo : (((w.alloc (.cells #[.slice aA n cA,.slice aT n cT] 78 (0,0))).alloc (.cells (sgA Z) 103 (0,0))).alloc (.cells (sgA Z) 103 (0,0))).setRow (w.heap.size + 2) (sgA X0) = w4 at *
 clear hwo hst hset hs0 hce m1 hrc hix hrx hz hne hsz hXm
 go_loopw [22] (fun i wr => ∃ k : Nat,k ≤ rl ∧ i = .int .i64 (k : Int) ∧ Hid (SgB wr (w.heap.size + 2) (sgTo c (R.getD s []) X k)) ∧ Hid (SgB wr (w.heap.size + 1) Z) ∧ Hid (Below w.heap.size w wr)) (fun i _ => rl - (intOf i).toNat)
 case atStart => exact ⟨0,Nat.zero_le _,rfl,by rw [← HX0.out]; exact HV2,HV1,HBA⟩
 case round =>
  obtain ⟨k,hk,rfl,HV,HZ,HB⟩ := hrel
  clear HV2 HV1 HBA
  by_cases hlt : k < rl
  ·have hix := fun w' => HRZ.out.idx rl k w' hlt (Nat.le_refl _)
   have hce := (HRZ.out.up HB.out).cell k hlt
   have hrk : k < (R.getD s []).length := by have := HRZ.out.hlen; rw [List.length_map] at this; omega
   rw [qy hrk] at hce
   have htn := HLR.out k hlt
   have HNN : Hid _ := HNX.out k hlt
   generalize (R.getD s []).getD k 0 = t at *
   have hit := fun w' => HHC.out.idx n t w' htn (Nat.le_refl _)
   have hct := (HHC.out.up HB.out).cell t htn
   rw [qy (by have := HCL.out; omega)] at hct
   have hc8 := HCC.out t htn
   generalize c.getD t 0 = v at *
   have hvm : (v : Int) % 256 = v := by omega
   have his : ∀ w',(Instr.indexAt 103 (.pointer (some ⟨w.heap.size + 2,0,none⟩)) (.int .i64 (1 + (k : Int)))).run Try.prog w' = .ok (.pointer (some ⟨w.heap.size + 2,1 + k,none⟩)) w' := fun w' => by
    have := q6z (w.heap.size + 2) (1 + k) (by omega) w'
    simpa using this
   have hl1 := HLT.out k (by omega)
   obtain ⟨b,cb⟩ : ∃ b,wr.cell? ⟨w.heap.size + 2,1 + k,none⟩ = some (.int .u8 b) := ⟨_,(qc HV.out (1 + k)).trans (q42 _ (by omega))⟩
   have zb : wr.frozen? ⟨w.heap.size + 2,1 + k,none⟩ = false := frozen_of_row _ _ _ _ _ HV.out
   have HV3 : Hid (SgB (wr.setCell ⟨w.heap.size + 2,1 + k,none⟩ (.int .u8 (v : Int))) (w.heap.size + 2) (sgTo c (R.getD s []) X (k + 1))) := by
    unfold SgB
    show _ = _
    rw [heap_setCell_same wr _ _ _ _ (.int .u8 (v : Int)) HV.out,q62,HNN.out]
   have HZ3 : Hid (SgB (wr.setCell ⟨w.heap.size + 2,1 + k,none⟩ (.int .u8 (v : Int))) (w.heap.size + 1) Z) := (Below.heap_setCell _ _ _ _ (by dsimp only; omega)).trans HZ.out
   have HB3 : Hid (Below w.heap.size w (wr.setCell ⟨w.heap.size + 2,1 + k,none⟩ (.int .u8 (v : Int)))) := HB.out.setCell (by dsimp only; omega) _
   clear HV HZ HB HNN hl1 hrk
   generalize adOf ra k = ad1 at *
   obtain ⟨bg,bo,bz⟩ := ad1
   generalize adOf aC t = ad2 at *
   obtain ⟨dg,d0,dz⟩ := ad2
   go_wp2
   go_roundw
   case rel => exact ⟨k + 1,by omega,by go_num,HV3,HZ3,HB3⟩
   case measure => simp [intOf]; omega
  ·obtain rfl : k = rl := by omega
   have hv : SgB wr (w.heap.size + 2) Y := by have := HV.out; rw [HYE.out] at this; exact this
   have hly : Y.length = 257 := by rw [← HYE.out]; exact HLT.out k (Nat.le_refl _)
   have hsy : (sgA Y).size = 257 := by rw [qj]; exact hly
   have HVV : Hid _ := hv
   have HE : Hid (SigQ Y w (.returned (.agg (sgA Y))) (wr.setRow (w.heap.size + 1) (sgA Y))) := ⟨rfl,qm HB.out (by omega) _⟩
   have HVY : Hid (SgB (wr.setRow (w.heap.size + 1) (sgA Y)) (w.heap.size + 1) Y) := HZ.out.row
   have hst := HZ.out.store HLZ.out hly
   have hsc := HZ.out.cells HLZ.out hly
   have hld := hv.load hly
   clear HV HB hv hly HZ
   go_wp2
   refine wp_load_row 103 _ rfl (w.heap.size + 2) rfl 103 (sgA Y) (0,0) _ HVV.out Try.underlying103 rfl (by rw [hsy]; exact ql) ?_
   go_wp2
   refine bodyPost_ret (v := .agg (sgA Y)) ?_ rfl HE.out
   exact results_cell_row Try.results76 _ _ (w.heap.size + 1) 103 (sgA Y) (0,0) _ rfl HVY.out Try.underlying103 rfl (by rw [hsy]; exact ql)
def SgOk (xs : List Nat) : Prop := xs.length = 257 ∧ ∀ x ∈ xs,x < 256
def klS (xs : List Nat) : Lit := .string (keyBytes (xs.map fun (x : Nat) => Lit.int .u8 (x : Int)))
theorem q3j {α β : Type} (f : α → Option β) (g : α → β) : ∀ (l : List α),(∀ a ∈ l,f a = some (g a)) → l.mapM f = some (l.map g)
 | [],_ => rfl
 | a :: l,h => by
  rw [List.mapM_cons,h a (by simp),q3j f g l (fun b hb => h b (by simp [hb]))]
  rfl
theorem q4H : Try.prog.keyType 103 = true := by kernel_rfl
theorem q5s : Try.prog.cellsOf 103 = 257 := by kernel_rfl
theorem q5t : Try.prog.cellsOf 5 = 1 := by kernel_rfl
theorem q48 : Keyed Try.prog 103 := Keyed.of_law (deep_law_laid q2j (m := 3) (by omega) (of_decide_eq_true (by kernel_rfl)) (by kernel_rfl) (by kernel_rfl))
theorem q5g {α β : Type} (g : α → β) : ∀ (l : List α),(l.map fun a => [g a]).flatten = l.map g
 | [] => rfl
 | a :: l => by rw [List.map_cons,List.flatten_cons,q5g g l]; rfl
theorem q1D (xs : List Nat) (h : SgOk xs) : keyOf Try.prog 103 (.agg (sgA xs)) = some (klS xs) := by
 obtain ⟨hl,h8⟩ := h
 obtain ⟨n,hn⟩ := q1V
 have hk : Try.prog.keyLits (n + 2) 103 (sgA xs).toList = some (xs.map fun (x : Nat) => Lit.int .u8 (x : Int)) := by
  have hL : (sgA xs).toList.length = 257 := by rw [Array.length_toList,qj,hl]
  simp only [Program.keyLits,Try.underlying103]
  rw [if_pos (by rw [hL]; exact q5s.symm),q3j (g := fun i => [Lit.int .u8 ((xs.getD i 0 : Nat) : Int)]),Option.map_some,q5g]
  ·congr 1
   apply List.ext_getElem?
   intro i
   by_cases hi : i < 257
   ·simp [List.getElem?_map,hi,List.getD_eq_getElem?_getD,List.getElem?_eq_getElem (show i < xs.length by omega)]
   ·rw [List.getElem?_eq_none (by rw [List.length_map,List.length_range]; omega),List.getElem?_eq_none (by rw [List.length_map]; omega)]
  ·intro i hi
   have hi := List.mem_range.1 hi
   have hix : i < xs.length := by omega
   have e : ((sgA xs).toList.drop (i * Try.prog.cellsOf 5)).take (Try.prog.cellsOf 5) = [.int .u8 ((xs.getD i 0 : Nat) : Int)] := by
    rw [q5t,Nat.mul_one,List.drop_eq_getElem_cons (by omega)]
    simp [sgA,List.getD_eq_getElem?_getD,List.getElem?_eq_getElem hix]
   have hm : xs.getD i 0 < 256 := h8 _ (by rw [List.getD_eq_getElem?_getD,List.getElem?_eq_getElem hix]; exact List.getElem_mem hix)
   rw [e]
   simp only [Try.underlying5]
   rw [if_pos ⟨trivial,WalkArith.wf_u8 (by omega)⟩]
 unfold keyOf klS
 rw [Try.underlying103,hn]
 have hf : Value.formed Try.prog 103 (.agg (sgA xs)) = true := by
  simp only [Value.formed,Try.underlying103,q5s,qj,hl]
  rfl
 simp only [q4H,hf,Bool.and_self,if_true]
 rw [show (Value.agg (sgA xs)).cells = sgA xs from rfl,hk]
 rfl
theorem q5y {x y : List Nat} (hx : SgOk x) (hy : SgOk y) (h : klS x = klS y) : x = y := by
 have := q48.inj (q1D x hx) (by rw [h]; exact q1D y hy)
 injection this with this
 exact q7Y this
theorem q3W (x : List Nat) : WideAt.IsKeyLit (klS x) := trivial
def NumSg (w : World) (b n : Nat) (f : List Nat → Option Nat) : Prop :=
 ∃ D : DataW Unit,w.ownsMap Try.prog 103 (plainElem Try.prog 3) b n D ∧ Tidy D ∧ Maps.size D = n ∧ ∀ x,SgOk x → has D (klS x) = (f x).isSome ∧ ∀ j,f x = some j → D.atKey (klS x) (.lit (.int .i64 0)) = .lit (.int .i64 (j : Int))
theorem NumSg.lt {w : World} {b n : Nat} {f : List Nat → Option Nat} (h : NumSg w b n f) : b < w.heap.size := by
 obtain ⟨D,h,_⟩ := h; exact h.lt
theorem NumSg.far {w w' : World} {b n : Nat} {f : List Nat → Option Nat} (h : NumSg w b n f) (hb : w'.heap[b]? = w.heap[b]?) : NumSg w' b n f := by
 obtain ⟨D,⟨es,clock,h1,h2⟩,r⟩ := h
 exact ⟨D,⟨es,clock,hb.trans h1,h2⟩,r⟩
theorem NumSg.up {w w' : World} {b n : Nat} {f : List Nat → Option Nat} (h : NumSg w b n f) (hb : Below w.heap.size w w') : NumSg w' b n f := h.far (hb.block b h.lt)
theorem NumSg.alike {w : World} {b n : Nat} {f g : List Nat → Option Nat} (h : NumSg w b n f) (hg : ∀ x,SgOk x → f x = g x) : NumSg w b n g := by
 obtain ⟨D,h1,h2,h3,h4⟩ := h
 exact ⟨D,h1,h2,h3,fun x hx => by rw [← hg x hx]; exact h4 x hx⟩
theorem q3l (w : World) : NumSg (w.alloc (.map #[] 0)) w.heap.size 0 (fun _ => none) :=
 ⟨.map [],World.ownsMap_made _ _ _ _,tidy_empty,rfl,fun x _ => ⟨rfl,fun j hj => by cases hj⟩⟩
theorem NumSg.look {w : World} {b n : Nat} {f : List Nat → Option Nat} (h : NumSg w b n f) {x : List Nat} (hx : SgOk x) :
  (Instr.lookup 120 (.map (some b)) (.agg (sgA x)) true).run Try.prog w = .ok (.tuple #[.int .i64 (((f x).getD 0 : Nat) : Int),.bool (f x).isSome]) w := by
 obtain ⟨D,h1,h2,h3,h4⟩ := h
 obtain ⟨hh,ha⟩ := h4 x hx
 obtain ⟨v,ps,hrun,hv⟩ := h1.look_ok q48 Try.underlying120 (q2q w) (plainElem_int Try.underlying3 (by decide)) (q1D x hx)
 obtain ⟨c,rfl,hc,hwc⟩ := plainElem_int_inv Try.underlying3 hv
 have hc' : D.atKey (klS x) (.lit (.int .i64 0)) = .lit (.int .i64 c) := congrArg Prod.fst hc
 rw [hrun,hh]
 cases hf : f x with
 | none =>
  rw [hf] at hh
  rw [atKey_of_not_has hh] at hc'
  injection hc' with hc'
  injection hc' with _ hc'
  subst hc'
  rfl
 | some j =>
  rw [ha j hf] at hc'
  injection hc' with hc'
  injection hc' with _ hc'
  subst hc'
  rfl
theorem NumSg.put {w : World} {b n : Nat} {f : List Nat → Option Nat} (h : NumSg w b n f) (hn : n ≤ 100000000) {x : List Nat} (hx : SgOk x) (hf : f x = none) (j : Nat) (hj : j ≤ 100000000) :
  ∃ w',(Instr.mapUpdate 120 (.map (some b)) (.agg (sgA x)) (.int .i64 (j : Int))).run Try.prog w = .ok () w' ∧ NumSg w' b (n + 1) (fun y => if y = x then some j else f y) ∧ w.grownBy w' (some b) := by
 obtain ⟨D,h1,h2,h3,h4⟩ := h
 obtain ⟨hh,_⟩ := h4 x hx
 rw [hf] at hh
 obtain ⟨w',hrun,hown,hg⟩ := h1.update q48 Try.underlying120 (by unfold maxLen; omega) (q1D x hx) (plainElem_int (a := (j : Int)) Try.underlying3 (WalkArith.wf_i64 (by omega)))
 refine ⟨w',hrun,⟨_,hown,h2.put (q3W x) _,?_,fun y hy => ?_⟩,hg⟩
 ·rw [size_put h2,hh,h3]; rfl
 ·dsimp only
  by_cases e : y = x
  ·subst e
   rw [if_pos rfl]
   refine ⟨has_put_same h2.isMap (q3W y) _,fun i hi => ?_⟩
   injection hi with hi
   subst hi
   exact atKey_put_same h2.isMap (q3W y) _ _
  ·have ne : klS y ≠ klS x := fun he => e (q5y hy hx he)
   rw [if_neg e,has_put_other ne]
   refine ⟨(h4 y hy).1,fun i hi => ?_⟩
   rw [atKey_put_other ne]
   exact (h4 y hy).2 i hi
theorem NumSg.len {w : World} {b n : Nat} {f : List Nat → Option Nat} (h : NumSg w b n f) (ty : TypeId) : (Builtin.len_ #[120] ty #[.map (some b)]).run Try.prog w = .ok (.int .i64 (n : Int)) w := by
 obtain ⟨D,h1,_,h3,_⟩ := h
 rw [h1.len Try.underlying120 ty,h3]
def posSg (L : List (List Nat)) (x : List Nat) : Option Nat := if x ∈ L then some (L.idxOf x) else none
theorem q1v {L : List (List Nat)} {x : List Nat} (h : x ∈ L) : posSg L x = some (L.idxOf x) := if_pos h
theorem qW {L : List (List Nat)} {x : List Nat} (h : x ∉ L) : posSg L x = none := if_neg h
theorem q6t {L : List (List Nat)} {x : List Nat} (hx : x ∉ L) (y : List Nat) : (if y = x then some L.length else posSg L y) = posSg (L ++ [x]) y := by
 by_cases e : y = x
 ·subst e
  rw [if_pos rfl,q1v (by simp)]
  simp [List.idxOf_append,hx]
 ·rw [if_neg e]
  by_cases hm : y ∈ L
  ·rw [q1v hm,q1v (by simp [hm])]
   simp [List.idxOf_append,hm]
  ·rw [qW hm,qW (by simp [hm,e])]
end Go.Proofs.Ytehddcdgpamaaaa
