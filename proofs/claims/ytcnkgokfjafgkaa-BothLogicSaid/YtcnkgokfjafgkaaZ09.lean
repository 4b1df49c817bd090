/- Texts of the proof, put together: what it uses. -/
import Derived.BigRegion
import Derived.Deep.RegionLaw
import Derived.Deep.DeepCutAuto
import Derived.Test.YtcnkgokfjafgkaaZ04
import Derived.Test.YtcnkgokfjafgkaaZ06
import Derived.Test.YtcnkgokfjafgkaaZ08
set_option maxRecDepth 100000
set_option maxHeartbeats 16000000
namespace Go.Proofs.Ytcnkgokfjafgkaa
open Go.RowKit Go.Maps
theorem LdL.fin {w wr : World} {g : Nat} {p : Int} {aA : Option Addr} {nA cA : Nat} {aG : Option Addr} {nG cG : Nat} {aN : Option Addr} {nN cN : Nat} {N : List Gd} {gs : List Int} {mv : Value} {rs : List Zc} {bs : List Bool}
  (h : LdL w wr g p aA nA cA aG nG cG aN nN cN N gs nA mv rs) (hl : gs.length = nA) (hB : BoSl w aA nA cA bs) (hi : ∀ r ∈ rs,∀ z ∈ r.zs,I64 z) :
  ∃ aT cT,mv = .slice aT nA cT ∧ MvS (two2 wr (w.heap.size + 1) (.slice aA nA cA) mv) aA cA aT cT nA bs (rowsG N gs (2 ^ p.toNat)) ∧ Below w.heap.size w (two2 wr (w.heap.size + 1) (.slice aA nA cA) mv) := by
 have hb : Below w.heap.size w (two2 wr (w.heap.size + 1) (.slice aA nA cA) mv) := q2D h.bel (by omega) _ _
 have hgl := h.gl
 have far : ∀ b,b ≠ w.heap.size + 1 → (two2 wr (w.heap.size + 1) (.slice aA nA cA) mv).heap[b]? = wr.heap[b]? := fun b hne => (Below.heap_setCell _ _ _ _ hne).trans (Below.heap_setCell _ _ _ _ hne)
 have hsz : (two2 wr (w.heap.size + 1) (.slice aA nA cA) mv).heap.size = wr.heap.size := by simp [two2]
 have hz := h.zs
 rw [List.take_of_length_le (by omega)] at hz
 have hrow : ∀ r ∈ rs,ZSl (two2 wr (w.heap.size + 1) (.slice aA nA cA) mv) r.a r.len r.cap r.zs ∧ ∀ z ∈ r.zs,I64 z := fun r hr => ⟨q4D (h.row r hr).1 (by rw [hsz]; exact Nat.le_refl _) (fun j hj => far _ (by have := ((h.row r hr).2 j hj).1; omega)),hi r hr⟩
 rcases h.own.2 with ⟨e,hn⟩ | ⟨gb,cap,cur,rfl,h2,h3,h4,h5,h6,h7⟩
 ·subst e; subst hn
  have : rs = [] := List.eq_nil_of_length_eq_zero h.hl
  subst this
  exact ⟨none,0,rfl,⟨hB.up hb,[],⟨rfl,Nat.le_refl _,Nat.zero_le _,fun _ => rfl,fun x hx => (by cases hx),fun r hr => (by cases hr)⟩,hz⟩,hb⟩
 ·refine ⟨some ⟨gb,0,none⟩,cap,rfl,⟨hB.up hb,rs,⟨h.hl,h4,h5,fun e => (by cases e),fun x hx k hk => ?_,hrow⟩,hz⟩,hb⟩
  injection hx with hx
  subst hx
  rw [q9,Nat.zero_add,World.cell?_of_block (far gb (by omega)),q6 h3]
  have hk2 : (cur.toList.take (nA * 1))[k]? = some (.slice rs[k].a rs[k].len rs[k].cap) := by
   rw [h7]; simp [List.getElem?_eq_getElem hk]
  have hkn : k < nA := by have := h.hl; omega
  rw [List.getElem?_take,if_pos (by omega)] at hk2
  simpa using hk2
theorem q2T (p : Int) (aA : Option Addr) (nA cA : Nat) (aG : Option Addr) (nG cG : Nat) (aN : Option Addr) (nN cN : Nat) (bs : List Bool) (N : List Gd) (gs : List Int) (aS : Option Addr) (nS cS : Nat) (sts : List Int) (w : World) (hB : BoSl w aA nA cA bs) (hN : NdSl w aN nN cN N) (hG : ZSl w aG nG cG gs) (hok : ∀ z ∈ gs,I64 z) (hS : ZSl w aS nS cS sts) :
  Calls Try.prog 82 #[.agg #[.int .i64 p,.slice aA nA cA,.slice aG nG cG,.slice aN nN cN],.slice aS nS cS] w (LdR p aA nA cA bs N gs sts w) := by
 obtain ⟨Q,eQ⟩ : ∃ Q,Q = LdR p aA nA cA bs N gs sts w := ⟨_,rfl⟩
 have HA : Hid (∀ w',Below w.heap.size w w' → ¬ MayG p nA N gs → Q (.returned (.tuple #[.agg #[.slice none 0 0,.slice none 0 0],.int .i64 12])) w') := fun w' hb h => by rw [eQ]; exact ⟨hb,.inl ⟨h,rfl⟩⟩
 have HP : Hid (∀ w',Below w.heap.size w w' → MayG p nA N gs → (¬ ∀ s ∈ sts,0 ≤ s ∧ s < (nA : Int)) → Q (.returned (.tuple #[.agg #[.slice none 0 0,.slice none 0 0],.int .i64 2])) w') := fun w' hb h h2 => by rw [eQ]; exact ⟨hb,.inr (.inl ⟨h,h2,rfl⟩)⟩
 have HY : Hid (∀ w' aT cT,Below w.heap.size w w' → MayG p nA N gs → (∀ s ∈ sts,0 ≤ s ∧ s < (nA : Int)) → MvS w' aA cA aT cT nA bs (rowsG N gs (2 ^ p.toNat)) → Q (.returned (.tuple #[.agg #[.slice aA nA cA,.slice aT nA cT],.int .i64 0])) w') := fun w' aT cT hb h h2 h3 => by rw [eQ]; exact ⟨hb,.inr (.inr ⟨h,h2,aT,cT,rfl,h3⟩)⟩
 rw [← eQ]
 clear eQ
 have HA0 : Hid _ := qj w p aA nA cA aG nG cG aN nN cN
 have HB0 : Hid (Below w.heap.size w (w.alloc (.cells #[.int .i64 p,.slice aA nA cA,.slice aG nG cG,.slice aN nN cN] 26 (0,0)))) := q5 w _
 have HA1 : Hid (AuB ((w.alloc (.cells #[.int .i64 p,.slice aA nA cA,.slice aG nG cG,.slice aN nN cN] 26 (0,0))).alloc (.cells #[.slice none 0 0,.slice none 0 0] 126 (0,0))) w.heap.size p aA nA cA aG nG cG aN nN cN) := HA0.out.up (q5 _ _)
 have HB1 : Hid (Below w.heap.size w ((w.alloc (.cells #[.int .i64 p,.slice aA nA cA,.slice aG nG cG,.slice aN nN cN] 26 (0,0))).alloc (.cells #[.slice none 0 0,.slice none 0 0] 126 (0,0)))) := q7 HB0.out (q5 _ _)
 have HR1 : Hid (MvB ((w.alloc (.cells #[.int .i64 p,.slice aA nA cA,.slice aG nG cG,.slice aN nN cN] 26 (0,0))).alloc (.cells #[.slice none 0 0,.slice none 0 0] 126 (0,0))) (w.heap.size + 1) (.slice none 0 0) (.slice none 0 0)) := by
  have := q11 (w.alloc (.cells #[.int .i64 p,.slice aA nA cA,.slice aG nG cG,.slice aN nN cN] 26 (0,0))) (.slice none 0 0) (.slice none 0 0)
  show MvB _ _ _ _; simpa using this
 have jc := q1J p aA nA cA aG nG cG aN nN cN N gs _ (hN.up HB1.out) (hG.up HB1.out) hok
 obtain ⟨c0,c1,c2,c3⟩ := HA1.out
 have HHB : Hid _ := hB
 have HHN : Hid _ := hN
 have HHG : Hid _ := hG
 have HOK : Hid _ := hok
 have HHS : Hid _ := hS
 clear HA0 HB0 hB hN hG hok hS
 go_enter Try.func82,Try.ntmps82
 go_wp2_with fail
 refine jc.mono ?_
 rintro e w2 ⟨hb2,v2,rfl,hv2⟩
 have HB2 : Hid (Below w.heap.size w w2) := q7 HB1.out hb2
 have HA2 : Hid (AuB w2 w.heap.size p aA nA cA aG nG cG aN nN cN) := HA1.out.up hb2
 have HR2 : Hid (MvB w2 (w.heap.size + 1) (.slice none 0 0) (.slice none 0 0)) := HR1.out.up hb2
 clear jc hb2 HA1 HB1 HR1 c0 c1 c2 c3
 have z0 := HR2.out.c0
 have z1 := HR2.out.c1
 have f0 := HR2.out.fz 0
 have f1 := HR2.out.fz 1
 rcases hv2 with ⟨rfl,hM⟩ | ⟨rfl,hM⟩
 ·have HM : Hid _ := hM
  have hbs := Nat.le_trans HHS.out.hcap HHS.out.bd
  have hbG := Nat.le_trans HHG.out.hcap HHG.out.bd
  unfold maxLen at hbs hbG
  clear z0 z1 f0 f1 hM
  go_wp2
  go_loopw [22] (fun i wr => ∃ k : Nat,k ≤ nS ∧ i = .int .i64 (k : Int) ∧ wr = w2 ∧ Hid (∀ j,j < k → 0 ≤ sts.getD j 0 ∧ sts.getD j 0 < (nA : Int))) (fun i _ => nS - (intOf i).toNat)
  case atStart => exact ⟨0,Nat.zero_le _,rfl,rfl,fun j hj => absurd hj (by omega)⟩
  case round =>
   obtain ⟨k,hk,rfl,rfl,HK⟩ := hrel
   by_cases hlt : k < nS
   ·have hidx := fun w' => HHS.out.idx nS k w' hlt (Nat.le_refl _)
    have hce := (HHS.out.up HB2.out).cell k hlt
    have hks : k < sts.length := by have := HHS.out.hlen; omega
    have HIN : Hid (sts.getD k 0 ∈ sts) := by show _ ∈ _; rw [List.getD_eq_getElem?_getD,List.getElem?_eq_getElem hks]; exact List.getElem_mem hks
    have c1 := HA2.out.c1
    generalize hz : sts.getD k 0 = z at *
    have HZ : Hid _ := hz
    clear hz
    generalize adOf aS k = ad at *
    obtain ⟨ag,ao,az⟩ := ad
    by_cases hneg : z < 0 ∨ (nA : Int) ≤ z
    ·have HE : Hid _ := HP.out (two2 wr (w.heap.size + 1) (.slice none 0 0) (.slice none 0 0)) (q2D HB2.out (by omega) _ _) HM.out (fun h => by have := h z HIN.out; omega)
     have z0 := HR2.out.c0
     have z1 := HR2.out.c1
     have f0 := HR2.out.fz 0
     have f1 := HR2.out.fz 1
     clear HA HP HY HK
     by_cases hn : z < 0
     ·clear hneg
      go_wp2
      refine bodyPost_ret (v := .tuple #[.agg #[.slice none 0 0,.slice none 0 0],.int .i64 2]) (by simp [results,Try.results82,go_sem,z0,z1]) rfl ?_
      exact HE.out
     ·have hn2 : (nA : Int) ≤ z := by omega
      clear hneg
      go_wp2
      refine bodyPost_ret (v := .tuple #[.agg #[.slice none 0 0,.slice none 0 0],.int .i64 2]) (by simp [results,Try.results82,go_sem,z0,z1]) rfl ?_
      exact HE.out
    ·have hn1 : ¬ z < 0 := by omega
     have hn2 : ¬ (nA : Int) ≤ z := by omega
     have HK2 : Hid (∀ j,j < k + 1 → 0 ≤ sts.getD j 0 ∧ sts.getD j 0 < (nA : Int)) := fun j hj => by
      by_cases e : j = k
      ·rw [e,HZ.out]; omega
      ·exact HK.out j (by omega)
     clear hneg HK HA HP HY
     go_wp2
     go_roundw
     case rel => exact ⟨k + 1,by omega,by go_num,trivial,HK2⟩
     case measure => simp [intOf]; omega
   ·obtain rfl : k = nS := by omega
    have HST : Hid (∀ s ∈ sts,0 ≤ s ∧ s < (nA : Int)) := fun s hs => by
     obtain ⟨j,hj,rfl⟩ := List.getElem_of_mem hs
     have := HK.out j (by have := HHS.out.hlen; omega)
     rwa [List.getD_eq_getElem?_getD,List.getElem?_eq_getElem hj] at this
    have c1 := HA2.out.c1
    have HLN : Hid (gs.length = nG) := HHG.out.hlen
    have HnG : Hid (nG = nA) := HHG.out.hlen.symm.trans HM.out.len
    have hn256 : nG ≤ 256 := by have := HM.out.s2; have := HnG.out; omega
    have hgs : w.heap.size + 2 ≤ wr.heap.size := by have := HR2.out.lt; omega
    have HL0 : Hid (LdL w (wr.alloc (.cells #[.slice aA nA cA,.slice none 0 0] 126 (0,0))) wr.heap.size p aA nA cA aG nG cG aN nN cN N gs 0 (.slice none 0 0) []) :=
     ⟨HA2.out.up (q5 _ _),HR2.out.up (q5 _ _),q11 _ _ _,hgs,q7 HB2.out (q5 _ _),rfl,⟨rfl,.inl ⟨rfl,rfl⟩⟩,rfl,fun r hr => by cases hr⟩
    have c2 := HL0.out.au.c2
    clear HK HA HP HA2 HR2 HB2 HHS hbs hlt hk
    have HGS : Hid _ := hgs
    clear hgs
    go_wp2
    generalize wr.heap.size = gm at *
    generalize wr.alloc (.cells #[.slice aA nA cA,.slice none 0 0] 126 (0,0)) = w4 at *
    clear c1 c2
    go_loopw [43] (fun i wx => ∃ (k : Nat) (mv : Value) (rs : List Zc),k ≤ nG ∧ i = .int .i64 (k : Int) ∧ Hid (LdL w wx gm p aA nA cA aG nG cG aN nN cN N gs k mv rs) ∧ Hid (∀ r ∈ rs,∀ z ∈ r.zs,I64 z)) (fun i _ => nG - (intOf i).toNat)
    case atStart => exact ⟨0,_,[],Nat.zero_le _,rfl,HL0,fun r hr => by cases hr⟩
    case round =>
     clear HL0
     obtain ⟨k,mv,rs,hk,rfl,HL,HI⟩ := hrel
     by_cases hlt : k < nG
     ·have hks : k < gs.length := by have := HLN.out; omega
      have hidx := fun w' => HHG.out.idx nG k w' hlt (Nat.le_refl _)
      have hce := (HHG.out.up HL.out.bel).cell k hlt
      have hkA : k < nA := by have := HnG.out; omega
      have hi64 := HOK.out (gs.getD k 0) (by rw [List.getD_eq_getElem?_getD,List.getElem?_eq_getElem hks]; exact List.getElem_mem hks)
      have jt := q5D p aN nN cN N (gs.getD k 0) wr (HHN.out.up HL.out.bel) hi64
      have HT : Hid (∀ e w6,TabRN p N (gs.getD k 0) wr e w6 → ∃ a len c,e = .returned (.tuple #[.slice a len c,.int .i64 0]) ∧ Below wr.heap.size wr w6 ∧ ZSl w6 a len c ((rowG N (2 ^ p.toNat) (gs.getD k 0)).map Int.ofNat) ∧ ∀ j,j < len → wr.heap.size ≤ (adOf a j).block) := fun e w6 hq => by
       have ht := HM.out.tab (K := 2 ^ p.toNat) hkA
       rw [q1w hks] at ht
       obtain ⟨hb,⟨h1,_⟩ | ⟨_,_,⟨h3,_⟩ | ⟨l,a,c,h3,rfl,h4,h5⟩⟩⟩ := hq
       ·exact absurd ⟨HM.out.p0,HM.out.p8⟩ h1
       ·rw [ht] at h3; cases h3
       ·rw [ht] at h3; injection h3 with h3; subst h3
        exact ⟨a,_,c,rfl,hb,h4,h5⟩
      have HR64 : Hid (∀ z ∈ (rowG N (2 ^ p.toNat) (gs.getD k 0)).map Int.ofNat,I64 z) := fun z hz => by
       obtain ⟨v,hv,rfl⟩ := List.mem_map.1 hz
       have hr := HM.out.rows (2 ^ p.toNat)
       obtain ⟨x,hx,rfl⟩ := List.getElem_of_mem hv
       have h1 := hr.lt k x hkA (by rw [q2x] at hx; exact hx)
       rw [trP,q1w hks,List.getD_eq_getElem?_getD,List.getElem?_eq_getElem hx] at h1
       have := HM.out.s2
       simp only [Option.getD_some] at h1
       generalize (rowG N (2 ^ p.toNat) (gs.getD k 0))[x] = v at *
       have e : Int.ofNat v = (v : Int) := rfl
       exact ⟨by omega,by omega⟩
      obtain ⟨va,vc,rfl⟩ := qe HL.out.own
      have HS : Hid (∀ w6 (y : Option Addr) (ly cy : Nat),Below wr.heap.size wr w6 → (w6.alloc (.cells #[.slice y ly cy] 23)).ownsRow (gm + 1) 23 1 (.slice va k vc) k (rs.map fun r => .slice r.a r.len r.cap) ∧ (w6.alloc (.cells #[.slice y ly cy] 23)).cell? ⟨w6.heap.size,0,none⟩ = some (.slice y ly cy) ∧ gm + 1 ≤ (w6.alloc (.cells #[.slice y ly cy] 23)).heap.size) := fun w6 y ly cy hb =>
       ⟨World.ownsRow.alloc (qC HL.out.own hb) _,q6 (MapKept.heap_alloc w6 _).1 0,by have := HL.out.mb.lt; have := hb.size; simp; omega⟩
      have a0 := HL.out.au.c0
      have a3 := HL.out.au.c3
      generalize hz : gs.getD k 0 = z at *
      have HZ : Hid _ := hz
      clear hz hi64
      generalize adOf aG k = ad at *
      obtain ⟨ag,ao,az⟩ := ad
      clear HY HHB HHN HHG HOK HLN HnG HGS HM HST
      go_wp2_with fail
      refine jt.mono ?_
      intro e w6 hq
      obtain ⟨y,ly,cy,rfl,hb6,hz6,hn6⟩ := HT.out e w6 hq
      obtain ⟨hs1,hs2,hs3⟩ := HS.out w6 y ly cy hb6
      have HO6 : Hid _ := hs1
      have HB6 : Hid _ := hb6
      have HZ6 : Hid _ := hz6
      have HN6 : Hid _ := hn6
      have m1 : w6.cell? ⟨gm,1,none⟩ = some (.slice va k vc) := (HL.out.mb.up hb6).c1
      clear hq jt HT HS hs1 hb6 hz6 hn6 a0 a3 hidx hce
      go_wp2_with (at_builtin; refine q1p rfl _ _ rfl (gm + 1) _ k _ rfl HO6.out w6.heap.size y ly cy rfl hs2 (by omega) hs3 ?_)
      intro gv cv w7 hown hgr hlies
      have hzz : ZSl w6 y ly cy ((rowG N (2 ^ p.toNat) (gs.getD k 0)).map Int.ofNat) := by rw [HZ.out]; exact HZ6.out
      have HL7 : Hid _ := HL.out.next hks HB6.out hzz HN6.out hown hgr (by simpa using hlies)
      have hgm : gm < (w6.alloc (.cells #[.slice y ly cy] 23)).heap.size := by omega
      have hbk : w7.heap[gm]? = some (.cells #[.slice aA nA cA,.slice va k vc] 126 (0,0)) := by
       have h1 := (HL.out.mb.up HB6.out).up (q5 w6 (.cells #[.slice y ly cy] 23))
       exact (hgr.block gm hgm (fun e => by have := qm HL.out.own gm e.symm; omega)).trans h1
      have m1 : w7.cell? ⟨gm,1,none⟩ = some (.slice va k vc) := q6 hbk 1
      have mf : w7.frozen? ⟨gm,1,none⟩ = false := frozen_of_row w7 gm 1 _ _ hbk
      have HI7 : Hid (∀ r ∈ rs ++ [⟨y,ly,cy,(rowG N (2 ^ p.toNat) (gs.getD k 0)).map Int.ofNat⟩],∀ z ∈ r.zs,I64 z) := fun r hr => by
       rcases List.mem_append.1 hr with hr | hr
       ·exact HI.out r hr
       ·simp only [List.mem_singleton] at hr
        subst hr
        rw [HZ.out]
        exact HR64.out
      clear hown hgr hlies hzz hbk hgm HO6 HB6 HZ6 HN6 HL HI hs2 hs3 HZ
      go_wp2
      go_roundw
      case rel => exact ⟨k + 1,_,_,by omega,by go_num,HL7,HI7⟩
      case measure => simp [intOf]; omega
     ·obtain rfl : k = nG := by omega
      have c0 := HL.out.mb.c0
      have c1 := HL.out.mb.c1
      have z0 := HL.out.rz.c0
      have z1 := HL.out.rz.c1
      have f0 := HL.out.rz.fz 0
      have f1 := HL.out.rz.fz 1
      have hL := HL.out
      rw [HnG.out] at hL
      obtain ⟨aT,cT,rfl,hm,hbm⟩ := hL.fin HM.out.len HHB.out HI.out
      have HE : Hid _ := HY.out _ aT cT hbm HM.out HST.out hm
      have hne : ¬ gm = w.heap.size + 1 := by have := HL.out.gl; omega
      clear hL hm hbm HY HL HI HM HST HHB HHN HHG HOK HLN HnG HGS
      go_wp2
      refine bodyPost_ret (v := .tuple #[.agg #[.slice aA nA cA,.slice aT nA cT],.int .i64 0]) (by simp [results,Try.results82,go_sem,z0,z1]) rfl ?_
      exact HE.out
 ·have HE : Hid _ := HA.out (two2 w2 (w.heap.size + 1) (.slice none 0 0) (.slice none 0 0)) (q2D HB2.out (by omega) _ _) hM
  clear HP HY HA hM
  go_wp2
  refine bodyPost_ret (v := .tuple #[.agg #[.slice none 0 0,.slice none 0 0],.int .i64 12]) (by simp [results,Try.results82,go_sem,z0,z1]) rfl ?_
  exact HE.out
theorem q2R : (Try.prog.info? 34).map (fun i => (i.zero,i.size,i.bytes)) = some (some (.int .u8 0),1,1) := by kernel_rfl
theorem q1o : (Try.prog.info? 34).map (·.size) = some 1 := by kernel_rfl
abbrev ltV (l : List Nat) : List Value := l.map fun (x : Nat) => Value.int .u8 (x : Int)
theorem q48 {w : World} {ops : Array Oper} {rest : List Oper} {o : Oper} {a : Act} {Q : Exit → Act → World → Prop} (hgd : o.guard = none) (s x : Operand)
  (ho : o.op = .call { callee := .builtin .append,args := #[s,x],argTypes := #[27,27] }) (base : Nat)
  (v : Value) (n : Nat) (l : List Nat) (hs : a.eval s = v) (hown : w.ownsRow base 34 1 v n (ltV l)) (g' z : Nat) (hx : a.eval x = .slice (some ⟨g',0,none⟩) 1 1) (hc : w.cell? ⟨g',0,none⟩ = some (.int .u8 (z : Int)))
  (hn : n + 1 ≤ 140737488355328) (hbase : base ≤ w.heap.size)
  (h : ∀ v' w',w'.ownsRow base 34 1 v' (n + 1) (ltV (l ++ [z])) → w.grownBy w' v.ownBlock → wpList Try.prog ops Q rest (a.put o.dst v') w') : wpList Try.prog ops Q (o :: rest) a w := by
 obtain ⟨i,hi,hz0,hz1,hz2⟩ := info_parts q2R
 refine wpList_append_own w hgd s x 27 ho base 34 i _ 1 1 Try.underlying27 hi hz0 hz1 hz2 rfl (by decide) v n _ hs hown ⟨g',0,none⟩ 1 1 [.int .u8 (z : Int)] hx rfl ?_ (fun u hu => by simp at hu; subst hu; rfl) (by unfold maxLen; omega) (by omega) hbase ?_
 ·intro j u hj
  match j with
  | 0 => simp at hj; rw [← hj,q9]; exact hc
  | j + 1 => simp at hj
 ·intro v' w' h1 h2 _
  exact h v' w' (by simp only [ltV,List.map_append]; exact h1) h2
theorem q56 {w : World} {base e n g cap : Nat} {xs : List Value} (h : w.ownsRow base e 1 (.slice (some ⟨g,0,none⟩) n cap) n xs) (i : Nat) (u : Value) : (w.setCell ⟨g,i,none⟩ u).ownsRow base e 1 (.slice (some ⟨g,0,none⟩) n cap) n (xs.set i u) := by
 obtain ⟨hl,hh⟩ := h
 refine ⟨by rw [List.length_set]; exact hl,?_⟩
 rcases hh with ⟨e1,_⟩ | ⟨g',cap',cur,e1,h2,h3,h4,h5,h6,h7⟩
 ·cases e1
 ·injection e1 with e1 e2 e3
  injection e1 with e1
  injection e1 with e1
  subst e1; subst e3
  refine .inr ⟨g,cap,cur.setIfInBounds i u,rfl,h2,heap_setCell_same w g i _ e u h3,h4,h5,by rw [Array.size_setIfInBounds]; exact h6,?_⟩
  rw [← h7,Array.toList_setIfInBounds,List.take_set]
theorem q44 {w : World} {base e n g cap : Nat} {xs : List Value} (h : w.ownsRow base e 1 (.slice (some ⟨g,0,none⟩) n cap) n xs) {i : Nat} (hi : i < n) : w.cell? ⟨g,i,none⟩ = xs[i]? ∧ w.frozen? ⟨g,i,none⟩ = false ∧ n ≤ cap ∧ cap ≤ maxLen := by
 obtain ⟨hl,hh⟩ := h
 rcases hh with ⟨e1,_⟩ | ⟨g',cap',cur,e1,h2,h3,h4,h5,h6,h7⟩
 ·cases e1
 ·injection e1 with e1 e2 e3
  injection e1 with e1
  injection e1 with e1
  subst e1; subst e3
  refine ⟨?_,frozen_of_row w g i _ e h3,h4,h5⟩
  rw [q6 h3,← h7,List.getElem?_take,if_pos (by omega)]
  simp
def RvP (xs ys : List Nat) (m i : Nat) : Prop := ys.length = m ∧ ∀ p,p < m → ys.getD p 0 = if p < i ∨ m - i ≤ p then xs.getD (m - 1 - p) 0 else xs.getD p 0
theorem RvP.next {xs ys : List Nat} {m i : Nat} (h : RvP xs ys m i) (hi : i < m - 1 - i) : RvP xs ((ys.set i (ys.getD (m - 1 - i) 0)).set (m - 1 - i) (ys.getD i 0)) m (i + 1) := by
 obtain ⟨hl,hp⟩ := h
 refine ⟨by rw [List.length_set,List.length_set]; exact hl,fun p hpm => ?_⟩
 have h1 := hp i (by omega)
 have h2 := hp (m - 1 - i) (by omega)
 rw [if_neg (by omega)] at h1 h2
 rw [List.getD_eq_getElem?_getD,List.getElem?_set,List.getElem?_set,List.length_set,hl]
 by_cases e1 : m - 1 - i = p
 ·rw [if_pos e1,if_pos (by omega),if_pos (by omega),Option.getD_some,h1]
  congr 1; omega
 ·rw [if_neg e1]
  by_cases e2 : i = p
  ·rw [if_pos e2,if_pos (by omega),if_pos (by omega),Option.getD_some,h2]
   congr 1; omega
  ·rw [if_neg e2,← List.getD_eq_getElem?_getD,hp p hpm]
   by_cases c : p < i ∨ m - i ≤ p
   ·rw [if_pos c,if_pos (by omega)]
   ·rw [if_neg c,if_neg (by omega)]
theorem RvP.fin {xs ys : List Nat} {m i : Nat} (hx : xs.length = m) (h : RvP xs ys m i) (hi : ¬ i < m - 1 - i) : ys = xs.reverse := by
 obtain ⟨hl,hp⟩ := h
 apply List.ext_getElem
 ·rw [List.length_reverse,hl,hx]
 ·intro p h1 h2
  have := hp p (by omega)
  rw [List.getD_eq_getElem?_getD,List.getElem?_eq_getElem h1,Option.getD_some] at this
  rw [this,List.getElem_reverse]
  by_cases c : p < i ∨ m - i ≤ p
  ·rw [if_pos c,List.getD_eq_getElem?_getD,List.getElem?_eq_getElem (by omega),Option.getD_some]
   congr 1; omega
  ·rw [if_neg c,List.getD_eq_getElem?_getD,List.getElem?_eq_getElem (by omega),Option.getD_some]
   congr 1; omega
theorem qaM {l : List Nat} {i : Nat} (h : i < l.length) : (ltV l)[i]? = some (.int .u8 ((l.getD i 0 : Nat) : Int)) := by
 simp [ltV,List.getD_eq_getElem?_getD,List.getElem?_eq_getElem h]
theorem q71 (l : List Nat) (i x : Nat) : (ltV l).set i (.int .u8 (x : Int)) = ltV (l.set i x) := by
 simp [ltV,List.map_set]
theorem q6E {w w' : World} {b : Option Nat} (h : w.grownBy w' b) : w.grownBy w'.drew b := ⟨h.os,h.tape,h.output,h.size,h.block⟩
theorem q3R (base g cap m : Nat) (xs : List Nat) (w : World) (hm : 0 < m) (hbd : m ≤ 140737488355328) (h : w.ownsRow base 34 1 (.slice (some ⟨g,0,none⟩) m cap) m (ltV xs)) :
  Calls Try.prog 62 #[.slice (some ⟨g,0,none⟩) m cap] w fun e w' => e = .returned (.tuple #[]) ∧ w'.ownsRow base 34 1 (.slice (some ⟨g,0,none⟩) m cap) m (ltV xs.reverse) ∧ w.grownBy w' (some g) := by
 have hxl : xs.length = m := by have := h.1; simpa [ltV] using this
 have HXL : Hid _ := hxl
 have HO0 : Hid _ := h
 have hsub : ((m : Int) - 1) = ((m - 1 : Nat) : Int) := by omega
 clear hxl h
 go_enter Try.func62,Try.ntmps62
 go_wp2
 go_loopw [2,3] (fun i j wr => ∃ (k J : Nat) (ys : List Nat),i = .int .i64 (k : Int) ∧ j = .int .i64 (J : Int) ∧ Hid (J + k + 1 = m) ∧ Hid (k ≤ J + 1) ∧ Hid (RvP xs ys m k) ∧ Hid (wr.ownsRow base 34 1 (.slice (some ⟨g,0,none⟩) m cap) m (ltV ys)) ∧ Hid (w.grownBy wr (some g))) (fun i _ _ => m - (intOf i).toNat)
 case atStart => exact ⟨0,m - 1,xs,rfl,by first | rfl | rw [hsub],by show _ = _; omega,by show _ ≤ _; omega,⟨HXL.out,fun p hp => by rw [if_neg (by omega)]⟩,HO0,World.grownBy.refl _ _⟩
 case round =>
  clear HO0 hsub
  obtain ⟨k,J,ys,rfl,rfl,HJ,HKJ,HR,HO,HG⟩ := hrel
  have hkm : k < m := by have := HJ.out; omega
  have hJm : J < m := by have := HJ.out; omega
  by_cases hlt : k < J
  ·have hyl := HR.out.1
   obtain ⟨e1,f1,hc1,hc2⟩ := q44 HO.out hkm
   obtain ⟨e2,f2,_,_⟩ := q44 HO.out hJm
   rw [qaM (by omega)] at e1 e2
   have hi1 : ∀ w',(Instr.indexAt 27 (.slice (some ⟨g,0,none⟩) m cap) (.int .i64 (k : Int))).run Try.prog w' = .ok (.pointer (some ⟨g,k,none⟩)) w' := fun w' => by
    have := qt (P := Try.prog) (T := 27) Try.underlying27 q1o (a := some ⟨g,0,none⟩) (cap := cap) (n := m) (fun e => by cases e) k w' hkm
    simpa [adOf,q9] using this
   have hi2 : ∀ w',(Instr.indexAt 27 (.slice (some ⟨g,0,none⟩) m cap) (.int .i64 (J : Int))).run Try.prog w' = .ok (.pointer (some ⟨g,J,none⟩)) w' := fun w' => by
    have := qt (P := Try.prog) (T := 27) Try.underlying27 q1o (a := some ⟨g,0,none⟩) (cap := cap) (n := m) (fun e => by cases e) J w' hJm
    simpa [adOf,q9] using this
   have hJe : m - 1 - k = J := by have := HJ.out; omega
   have HR2 : Hid (RvP xs ((ys.set k (ys.getD J 0)).set J (ys.getD k 0)) m (k + 1)) := by
    have := HR.out.next (by rw [hJe]; exact hlt)
    rw [hJe] at this
    exact this
   have HO2 : Hid (((wr.setCell ⟨g,k,none⟩ (.int .u8 ((ys.getD J 0 : Nat) : Int))).setCell ⟨g,J,none⟩ (.int .u8 ((ys.getD k 0 : Nat) : Int))).ownsRow base 34 1 (.slice (some ⟨g,0,none⟩) m cap) m (ltV ((ys.set k (ys.getD J 0)).set J (ys.getD k 0)))) := by
    have := q56 (q56 HO.out k (.int .u8 ((ys.getD J 0 : Nat) : Int))) J (.int .u8 ((ys.getD k 0 : Nat) : Int))
    rw [q71,q71] at this
    exact this
   have HG2 : Hid (w.grownBy ((wr.setCell ⟨g,k,none⟩ (.int .u8 ((ys.getD J 0 : Nat) : Int))).setCell ⟨g,J,none⟩ (.int .u8 ((ys.getD k 0 : Nat) : Int))) (some g)) := ⟨HG.out.os,HG.out.tape,HG.out.output,by have := HG.out.size; simpa using this,fun b hb hne => by
    have hbg : b ≠ g := fun e => hne (by rw [e])
    rw [Below.heap_setCell _ _ _ _ hbg,Below.heap_setCell _ _ _ _ hbg]
    exact HG.out.block b hb hne⟩
   clear HR HO HG hyl hJe
   generalize ys.getD J 0 = vJ at *
   generalize ys.getD k 0 = vk at *
   have hne : ¬ J = k := by omega
   have hne2 : ¬ k = J := by omega
   have HNJ : Hid (((J - 1 : Nat) : Int) = (J : Int) - 1) := by show _ = _; omega
   have HJ2 : Hid (J - 1 + (k + 1) + 1 = m) := by show _ = _; have := HJ.out; omega
   have HK2 : Hid (k + 1 ≤ J - 1 + 1) := by show _ ≤ _; omega
   go_wp2
   go_region
   go_wp2
   go_roundw
   case rel => exact ⟨k + 1,J - 1,_,by go_num,by rw [HNJ.out],HJ2,HK2,HR2,HO2,q6E HG2.out⟩
   case measure => simp [intOf]; omega
  ·have HE : Hid (wr.ownsRow base 34 1 (.slice (some ⟨g,0,none⟩) m cap) m (ltV xs.reverse)) := by
    have := HR.out.fin HXL.out (by have := HJ.out; omega)
    rw [this] at HO
    exact HO
   clear HR HO HJ HKJ
   go_wp2
   go_end0
   exact ⟨rfl,HE.out,HG.out⟩
def encP (Q : List PrP) : List Value := Q.flatMap fun x => [.int .i64 (x.1 : Int),.int .i64 (x.2.1 : Int),.int .i64 (x.2.2.1 : Int),.int .u8 (x.2.2.2 : Int)]
theorem q4N (t : PrP) (Q : List PrP) : encP (t :: Q) = .int .i64 (t.1 : Int) :: .int .i64 (t.2.1 : Int) :: .int .i64 (t.2.2.1 : Int) :: .int .u8 (t.2.2.2 : Int) :: encP Q := rfl
theorem q8Y (X Y : List PrP) : encP (X ++ Y) = encP X ++ encP Y := by simp [encP]
theorem q5R : ∀ Q : List PrP,(encP Q).length = Q.length * 4
 | [] => rfl
 | t :: Q => by rw [q4N]; simp [q5R Q]; omega
theorem q5Q : ∀ (Q : List PrP) (k : Nat) (x : PrP),Q[k]? = some x → (encP Q)[4 * k]? = some (.int .i64 (x.1 : Int)) ∧ (encP Q)[4 * k + 1]? = some (.int .i64 (x.2.1 : Int)) ∧ (encP Q)[4 * k + 2]? = some (.int .i64 (x.2.2.1 : Int)) ∧ (encP Q)[4 * k + 3]? = some (.int .u8 (x.2.2.2 : Int))
 | [],k,x,h => by simp at h
 | t :: Q,0,x,h => by simp at h; subst h; exact ⟨rfl,rfl,rfl,rfl⟩
 | t :: Q,k + 1,x,h => by
  have := q5Q Q k x (by simpa using h)
  rw [q4N,show 4 * (k + 1) = 4 * k + 1 + 1 + 1 + 1 by omega,show 4 * k + 1 + 1 + 1 + 1 + 1 = (4 * k + 1) + 1 + 1 + 1 + 1 by omega,show 4 * k + 1 + 1 + 1 + 1 + 2 = (4 * k + 2) + 1 + 1 + 1 + 1 by omega,show 4 * k + 1 + 1 + 1 + 1 + 3 = (4 * k + 3) + 1 + 1 + 1 + 1 by omega]
  simpa using this
theorem q8Z (Q : List PrP) : ∀ u ∈ encP Q,u.oneCell' = true := by
 intro u hu
 unfold encP at hu
 obtain ⟨c,_,hc⟩ := List.mem_flatMap.1 hu
 simp at hc
 rcases hc with rfl | rfl | rfl | rfl <;> rfl
theorem q6H {P : Program} {e : TypeId} (h : (P.info? e).map (·.size) = some 4) (w : World) : (sizeOf e).run P w = .ok 4 w := by
 cases hq : P.info? e with
 | none => simp [hq] at h
 | some i => simp [hq] at h; simp [sizeOf,typeInfo,hq,h]
def klB2 (x : Nat × Nat) : Lit := .string (keyBytes [.int .i64 (x.1 : Int),.int .i64 (x.2 : Int)])
abbrev b2V (x : Nat × Nat) : Value := .agg #[.int .i64 (x.1 : Int),.int .i64 (x.2 : Int)]
theorem q5n : Try.prog.keyType 88 = true := by kernel_rfl
theorem q6k : Try.prog.cellsOf 88 = 2 := by kernel_rfl
theorem q4G : Keyed Try.prog 88 := Keyed.of_law (deep_law_laid q1N (m := 3) (by omega) (of_decide_eq_true (by kernel_rfl)) (by kernel_rfl) (by kernel_rfl))
theorem q23 (x : Nat × Nat) (h : x.1 ≤ 1000 ∧ x.2 ≤ 1000) : keyOf Try.prog 88 (b2V x) = some (klB2 x) := by
 obtain ⟨n,hn⟩ := q1r
 have w1 : (Lit.int .i64 (x.1 : Int)).wf = true := WalkArith.wf_i64 (by omega)
 have w2 : (Lit.int .i64 (x.2 : Int)).wf = true := WalkArith.wf_i64 (by omega)
 unfold keyOf b2V klB2
 rw [Try.underlying88,hn]
 simp [q5n,Value.formed,Try.underlying88,q6k,Value.cells,Program.keyLits,q2I,Try.underlying3,w1,w2,List.range,List.range.loop]
theorem q5F {x y : Nat × Nat} (hx : x.1 ≤ 1000 ∧ x.2 ≤ 1000) (hy : y.1 ≤ 1000 ∧ y.2 ≤ 1000) (h : klB2 x = klB2 y) : x = y := by
 have := q4G.inj (q23 x hx) (by rw [h]; exact q23 y hy)
 simp [b2V] at this
 exact Prod.ext (by omega) (by omega)
theorem q3x (x : Nat × Nat) : WideAt.IsKeyLit (klB2 x) := trivial
def NumB (w : World) (b n : Nat) (f : Nat × Nat → Option Nat) : Prop :=
 ∃ D : DataW Unit,w.ownsMap Try.prog 88 (plainElem Try.prog 3) b n D ∧ Tidy D ∧ Maps.size D = n ∧ ∀ x : Nat × Nat,x.1 ≤ 1000 ∧ x.2 ≤ 1000 → has D (klB2 x) = (f x).isSome ∧ ∀ j,f x = some j → D.atKey (klB2 x) (.lit (.int .i64 0)) = .lit (.int .i64 (j : Int))
theorem NumB.lt {w : World} {b n : Nat} {f : Nat × Nat → Option Nat} (h : NumB w b n f) : b < w.heap.size := by
 obtain ⟨D,h,_⟩ := h; exact h.lt
theorem NumB.far {w w' : World} {b n : Nat} {f : Nat × Nat → Option Nat} (h : NumB w b n f) (hb : w'.heap[b]? = w.heap[b]?) : NumB w' b n f := by
 obtain ⟨D,⟨es,clock,h1,h2⟩,r⟩ := h
 exact ⟨D,⟨es,clock,hb.trans h1,h2⟩,r⟩
theorem NumB.isMap {w : World} {b n : Nat} {f : Nat × Nat → Option Nat} (h : NumB w b n f) : ∃ es c,w.heap[b]? = some (.map es c) := by
 obtain ⟨D,⟨es,clock,h1,h2⟩,r⟩ := h
 exact ⟨es,clock,h1⟩
theorem NumB.alike {w : World} {b n : Nat} {f g : Nat × Nat → Option Nat} (h : NumB w b n f) (hg : ∀ x,f x = g x) : NumB w b n g := by
 obtain ⟨D,h1,h2,h3,h4⟩ := h
 exact ⟨D,h1,h2,h3,fun x hx => by rw [← hg x]; exact h4 x hx⟩
theorem q8h (w : World) : NumB (w.alloc (.map #[] 0)) w.heap.size 0 (fun _ => none) :=
 ⟨.map [],World.ownsMap_made _ _ _ _,tidy_empty,rfl,fun x _ => ⟨rfl,fun j hj => by cases hj⟩⟩
theorem NumB.look {w : World} {b n : Nat} {f : Nat × Nat → Option Nat} (h : NumB w b n f) {x : Nat × Nat} (hx : x.1 ≤ 1000 ∧ x.2 ≤ 1000) :
  (Instr.lookup 67 (.map (some b)) (b2V x) true).run Try.prog w = .ok (.tuple #[.int .i64 (((f x).getD 0 : Nat) : Int),.bool (f x).isSome]) w := by
 obtain ⟨D,h1,h2,h3,h4⟩ := h
 obtain ⟨hh,ha⟩ := h4 x hx
 obtain ⟨v,ps,hrun,hv⟩ := h1.look_ok q4G Try.underlying67 (q1Q w) (plainElem_int Try.underlying3 (by decide)) (q23 x hx)
 obtain ⟨c,rfl,hc,hwc⟩ := plainElem_int_inv Try.underlying3 hv
 have hc' := congrArg Prod.fst hc
 rw [hrun,hh]
 cases hf : f x with
 | none =>
  rw [hf] at hh
  rw [atKey_of_not_has hh] at hc'
  injection hc' with hc'
  injection hc' with _ hc'
  subst hc'
  rfl
 | some j =>
  rw [ha j hf] at hc'
  injection hc' with hc'
  injection hc' with _ hc'
  subst hc'
  rfl
theorem NumB.put {w : World} {b n : Nat} {f : Nat × Nat → Option Nat} (h : NumB w b n f) (hn : n ≤ 100000000) {x : Nat × Nat} (hx : x.1 ≤ 1000 ∧ x.2 ≤ 1000) (hf : f x = none) (j : Nat) (hj : j ≤ 100000000) :
  ∃ w',(Instr.mapUpdate 67 (.map (some b)) (b2V x) (.int .i64 (j : Int))).run Try.prog w = .ok () w' ∧ NumB w' b (n + 1) (fun y => if y = x then some j else if y.1 ≤ 1000 ∧ y.2 ≤ 1000 then f y else none) ∧ w.grownBy w' (some b) := by
 obtain ⟨D,h1,h2,h3,h4⟩ := h
 obtain ⟨hh,_⟩ := h4 x hx
 rw [hf] at hh
 obtain ⟨w',hrun,hown,hg⟩ := h1.update q4G Try.underlying67 (by unfold maxLen; omega) (q23 x hx) (plainElem_int (a := (j : Int)) Try.underlying3 (WalkArith.wf_i64 (by omega)))
 refine ⟨w',hrun,⟨_,hown,h2.put (q3x x) _,?_,fun y hy => ?_⟩,hg⟩
 ·rw [size_put h2,hh,h3]; rfl
 ·dsimp only
  rw [if_pos hy]
  by_cases e : y = x
  ·subst e
   rw [if_pos rfl]
   refine ⟨has_put_same h2.isMap (q3x y) _,fun i hi => ?_⟩
   injection hi with hi
   subst hi
   exact atKey_put_same h2.isMap (q3x y) _ _
  ·have ne : klB2 y ≠ klB2 x := fun he => e (q5F hy hx he)
   rw [if_neg e,has_put_other ne]
   refine ⟨(h4 y hy).1,fun i hi => ?_⟩
   rw [atKey_put_other ne]
   exact (h4 y hy).2 i hi
def posE (T : List PrP) (x : Nat × Nat) : Option Nat := if x ∈ pqP T then some (nmE T x) else none
theorem q8o {T : List PrP} (hT : ∀ e ∈ T,e.1 ≤ 1000 ∧ e.2.1 ≤ 1000) {x : Nat × Nat} (hx : x ∉ pqP T) (n l : Nat) (y : Nat × Nat) : (if y = x then some (T.length + 1) else if y.1 ≤ 1000 ∧ y.2 ≤ 1000 then posE T y else none) = posE (T ++ [(x.1,x.2,n,l)]) y := by
 unfold posE
 rw [q2p]
 by_cases e : y = x
 ·subst e
  rw [if_pos rfl,if_pos (by simp),nmE,q2p,List.idxOf_append,if_neg hx]
  simp [q2q]; omega
 ·rw [if_neg e]
  by_cases hm : y ∈ pqP T
  ·have hy : y.1 ≤ 1000 ∧ y.2 ≤ 1000 := by
    obtain ⟨z,hz,rfl⟩ := List.mem_map.1 hm
    exact hT z hz
   rw [if_pos hy,if_pos hm,if_pos (by simp [hm]),nmE,nmE,q2p,List.idxOf_append,if_pos hm]
  ·have hne : ¬ (y ∈ pqP T ++ [(x.1,x.2)]) := fun h => by
    rcases List.mem_append.1 h with h | h
    ·exact hm h
    ·exact e (List.mem_singleton.1 h)
   rw [if_neg hm,if_neg hne]; split <;> rfl
def RwM (w : World) (g n K : Nat) (R : List (List Nat)) : Prop := ∃ cur,w.heap[g]? = some (.cells cur 23 (0,0)) ∧ ∀ i,i < n → ∃ gi ci cu,cur[i]? = some (.slice (some ⟨gi,0,none⟩) K ci) ∧ w.heap[gi]? = some (.cells cu 3 (0,0)) ∧ ∀ l,l < K → cu[l]? = some (.int .i64 ((trP R i l : Nat) : Int))
def NoZ (w : World) (F : Nat → Prop) : Prop := ∀ k,F k → ∀ cs,w.heap[k]? ≠ some (.cells cs 23 (0,0)) ∧ w.heap[k]? ≠ some (.cells cs 3 (0,0))
theorem RwM.fr {w w' : World} {F F' : Nat → Prop} {g n K : Nat} {R : List (List Nat)} (h : RwM w g n K R) (hf : Fr w w' F F') (hz : NoZ w F) : RwM w' g n K R := by
 obtain ⟨cur,h1,h2⟩ := h
 refine ⟨cur,(hf.keep g (Array.getElem?_eq_some_iff.1 h1).1 (fun e => (hz g e cur).1 h1)).trans h1,fun i hi => ?_⟩
 obtain ⟨gi,ci,cu,h3,h4,h5⟩ := h2 i hi
 exact ⟨gi,ci,cu,h3,(hf.keep gi (Array.getElem?_eq_some_iff.1 h4).1 (fun e => (hz gi e cu).2 h4)).trans h4,h5⟩
theorem RwM.up {w w' : World} {g n K : Nat} {R : List (List Nat)} (h : RwM w g n K R) (hb : Below w.heap.size w w') : RwM w' g n K R :=
 h.fr (F := fun _ => False) (F' := fun _ => False) (Fr.ofBelow hb) (fun _ hk => hk.elim)
theorem RwM.at {w : World} {g n K : Nat} {R : List (List Nat)} (h : RwM w g n K R) {i : Nat} (hi : i < n) : ∃ gi ci,w.cell? ⟨g,i,none⟩ = some (.slice (some ⟨gi,0,none⟩) K ci) ∧ gi < w.heap.size ∧ (∀ l,l < K → w.cell? ⟨gi,l,none⟩ = some (.int .i64 ((trP R i l : Nat) : Int))) ∧ ∃ cu,w.heap[gi]? = some (.cells cu 3 (0,0)) := by
 obtain ⟨cur,h1,h2⟩ := h
 obtain ⟨gi,ci,cu,h3,h4,h5⟩ := h2 i hi
 exact ⟨gi,ci,by rw [q6 h1]; exact h3,(Array.getElem?_eq_some_iff.1 h4).1,fun l hl => by rw [q6 h4]; exact h5 l hl,cu,h4⟩
structure PD where
 w0 : World
 b : Nat
 m : Nat
 aA : Option Addr
 nA : Nat
 cA : Nat
 aB : Option Addr
 nB : Nat
 cB : Nat
 gA : Nat
 tA : Nat
 gB : Nat
 tB : Nat
 K : Nat
 bs : List Bool
 bs' : List Bool
 R : List (List Nat)
 R' : List (List Nat)
def prO (D : PD) (v : Value) : Obj := .cells #[.slice D.aA D.nA D.cA,.slice D.aB D.nB D.cB,.slice (some ⟨D.gA,0,none⟩) D.nA D.tA,.slice (some ⟨D.gB,0,none⟩) D.nB D.tB,.map (some D.m),v] 70 (0,0)
def mtO (x : PrP) : Obj := .cells #[.int .i64 (x.1 : Int),.int .i64 (x.2.1 : Int),.int .i64 (x.2.2.1 : Int),.int .u8 (x.2.2.2 : Int)] 90 (0,0)
abbrev mtL (T : List PrP) : List PrP := (0,0,0,0) :: T
structure PrS (D : PD) (w : World) (F : Nat → Prop) (T : List PrP) : Prop where
 bel : Below D.w0.heap.size D.w0 w
 ge : ∀ k,F k → D.w0.heap.size ≤ k
 ok : ∀ e ∈ T,e.1 ≤ 1000 ∧ e.2.1 ≤ 1000
 rA : RwM w D.gA D.nA D.K D.R
 rB : RwM w D.gB D.nB D.K D.R'
 bA : BoSl D.w0 D.aA D.nA D.cA D.bs
 bB : BoSl D.w0 D.aB D.nB D.cB D.bs'
 num : NumB w D.m T.length (posE T)
 ex : ∃ v,w.heap[D.b]? = some (prO D v) ∧ w.ownsRow 0 90 4 v (T.length + 1) (encP (mtL T)) ∧ ∀ k,F k ↔ (k = D.b ∨ k = D.m ∨ v.ownBlock = some k)
theorem q14 {w : World} {base e size n g : Nat} {v : Value} {xs : List Value} {o : Obj} (h : w.ownsRow base e size v n xs) (hg : w.heap[g]? = some o) (ho : ∀ cs,o ≠ .cells cs e (0,0)) : v.ownBlock ≠ some g := by
 rcases h.2 with ⟨rfl,_⟩ | ⟨g',cap,cur,rfl,_,hc,_⟩
 ·intro e; cases e
 ·intro e
  injection e with e
  dsimp only at e
  subst e
  rw [hg] at hc
  injection hc with hc
  exact ho _ hc
theorem qw {w : World} {base e size n g : Nat} {v : Value} {xs : List Value} (h : w.ownsRow base e size v n xs) (hg : v.ownBlock = some g) : ∃ cs,w.heap[g]? = some (.cells cs e (0,0)) := by
 rcases h.2 with ⟨rfl,_⟩ | ⟨g',cap,cur,rfl,_,hc,_⟩
 ·cases hg
 ·injection hg with hg
  dsimp only at hg
  subst hg
  exact ⟨_,hc⟩
theorem PrS.noZ {D : PD} {w : World} {F : Nat → Prop} {T : List PrP} (h : PrS D w F T) : NoZ w F := by
 obtain ⟨v,h1,h2,h3⟩ := h.ex
 obtain ⟨es,cl,hm⟩ := h.num.isMap
 intro k hk cs
 rcases (h3 k).1 hk with rfl | rfl | hk
 ·rw [h1]
  exact ⟨fun e => by injection e with e; unfold prO at e; injection e with _ e _; exact absurd e (by decide),fun e => by injection e with e; unfold prO at e; injection e with _ e _; exact absurd e (by decide)⟩
 ·rw [hm]
  exact ⟨(fun e => by cases e),(fun e => by cases e)⟩
 ·obtain ⟨cs',hc⟩ := qw h2 hk
  rw [hc]
  exact ⟨fun e => by injection e with e; injection e with _ e _; exact absurd e (by decide),fun e => by injection e with e; injection e with _ e _; exact absurd e (by decide)⟩
theorem PrS.lt {D : PD} {w : World} {F : Nat → Prop} {T : List PrP} (h : PrS D w F T) : ∀ k,F k → k < w.heap.size := by
 obtain ⟨v,h1,h2,h3⟩ := h.ex
 intro k hk
 rcases (h3 k).1 hk with rfl | rfl | hk
 ·exact (Array.getElem?_eq_some_iff.1 h1).1
 ·exact h.num.lt
 ·exact (h2.lt k hk).2
theorem PrS.far {D : PD} {w w' : World} {F : Nat → Prop} {T : List PrP} (h : PrS D w F T) (hb : Below D.w0.heap.size w w') (hf : ∀ k,F k → w'.heap[k]? = w.heap[k]?) (hA : RwM w' D.gA D.nA D.K D.R) (hB : RwM w' D.gB D.nB D.K D.R') : PrS D w' F T := by
 obtain ⟨v,h1,h2,h3⟩ := h.ex
 exact ⟨h.bel.trans hb,h.ge,h.ok,hA,hB,h.bA,h.bB,h.num.far (hf _ ((h3 _).2 (.inr (.inl rfl)))),v,(hf _ ((h3 _).2 (.inl rfl))).trans h1,qb h2 (fun k hk => hf k ((h3 k).2 (.inr (.inr hk)))),h3⟩
theorem PrS.up {D : PD} {w w' : World} {F : Nat → Prop} {T : List PrP} (h : PrS D w F T) (hb : Below w.heap.size w w') : PrS D w' F T :=
 h.far (hb.mono h.bel.size) (fun k hk => hb.block k (h.lt k hk)) (h.rA.up hb) (h.rB.up hb)
theorem PrS.read {D : PD} {w : World} {F : Nat → Prop} {T : List PrP} (h : PrS D w F T) : ∃ g cap,w.heap[D.b]? = some (prO D (.slice (some ⟨g,0,none⟩) (T.length + 1) cap)) ∧ w.ownsRow 0 90 4 (.slice (some ⟨g,0,none⟩) (T.length + 1) cap) (T.length + 1) (encP (mtL T)) ∧ ∀ k,F k ↔ (k = D.b ∨ k = D.m ∨ k = g) := by
 obtain ⟨v,h1,h2,h3⟩ := h.ex
 obtain ⟨g,cap,rfl,_,_⟩ := World.ownsRow.form h2 (by omega)
 exact ⟨g,cap,h1,h2,fun k => (h3 k).trans (by simp only [Value.ownBlock,Option.some.injEq,eq_comm (a := g)])⟩
theorem q7m : (Try.prog.info? 90).map (fun i => (i.zero,i.size,i.bytes)) = some (some (.agg #[.int .i64 0,.int .i64 0,.int .i64 0,.int .u8 0]),4,32) := by kernel_rfl
theorem q7s : (Try.prog.info? 90).map (·.size) = some 4 := by kernel_rfl
theorem q7x {w : World} {o : Oper} {a : Act} {K : Act → World → Prop} {Q : Exit → Act → World → Prop} (s x : Operand)
  (ho : o.op = .call { callee := .builtin .append,args := #[s,x],argTypes := #[68,68] }) (base : Nat)
  (v : Value) (n : Nat) (N : List PrP) (y : PrP) (g' : Nat) (hs : a.eval s = v) (hx : a.eval x = .slice (some ⟨g',0,none⟩) 1 1) (hown : w.ownsRow base 90 4 v n (encP N)) (hB : w.heap[g']? = some (mtO y)) (hn : n ≤ 1000000) (hbase : base ≤ w.heap.size)
  (h : ∀ g cap w',w'.ownsRow base 90 4 (.slice (some ⟨g,0,none⟩) (n + 1) cap) (n + 1) (encP (N ++ [y])) → w.grownBy w' v.ownBlock → (v.ownBlock = some g ∨ g = w.heap.size) → K (a.put o.dst (.slice (some ⟨g,0,none⟩) (n + 1) cap)) w') : o.wp Try.prog a w K Q := by
 obtain ⟨i,hi,hz0,hz1,hz2⟩ := info_parts q7m
 refine wp_append_lies w s x 68 ho base 90 i _ 4 32 Try.underlying68 hi hz0 hz1 hz2 rfl (by decide) v n _ hs hown ⟨g',0,none⟩ 1 1 (encP [y]) hx rfl (fun j u hj => ?_) (q8Z [y]) (by decide) (by unfold maxLen; omega) (by omega) hbase _ rfl ?_
 ·rw [q9,Nat.zero_add,q6 hB]
  simpa [encP] using hj
 ·intro g cap w' h1 h2 h3 _
  exact h g cap w' (by rw [q8Y]; exact h1) h2 h3
theorem q5L {w : World} {ops : Array Oper} {o : Oper} {a : Act} {K : Act → World → Prop} {Q : Exit → Act → World → Prop} {E : Prop} (hw : Region.wanted o (yielded ops a.tmps) = true) (s x : Operand)
  (ho : o.op = .call { callee := .builtin .append,args := #[s,x],argTypes := #[68,68] }) (base : Nat)
  (v : Value) (n : Nat) (N : List PrP) (y : PrP) (g' : Nat) (hs : a.eval s = v) (hx : a.eval x = .slice (some ⟨g',0,none⟩) 1 1) (hown : w.ownsRow base 90 4 v n (encP N)) (hB : w.heap[g']? = some (mtO y)) (hn : n ≤ 1000000) (hbase : base ≤ w.heap.size)
  (h : ∀ g cap w',w'.ownsRow base 90 4 (.slice (some ⟨g,0,none⟩) (n + 1) cap) (n + 1) (encP (N ++ [y])) → w.grownBy w' v.ownBlock → (v.ownBlock = some g ∨ g = w.heap.size) → K (a.put o.dst (.slice (some ⟨g,0,none⟩) (n + 1) cap)) w') :
  if Region.wanted o (yielded ops a.tmps) = true then Oper.wp Try.prog o a w K Q else E := by
 rw [if_pos hw]
 exact q7x s x ho base v n N y g' hs hx hown hB hn hbase h
structure MidB (D : PD) (w w6 : World) (F : Nat → Prop) (g cap : Nat) (T : List PrP) (x : PrP) : Prop where
 blk : w6.heap[D.b]? = some (prO D (.slice (some ⟨g,0,none⟩) (T.length + 1) cap))
 row : w6.ownsRow 0 90 4 (.slice (some ⟨g,0,none⟩) (T.length + 1) cap) (T.length + 1) (encP (mtL T))
 num : NumB w6 D.m (T.length + 1) (posE (T ++ [x]))
 fF : ∀ k,F k ↔ (k = D.b ∨ k = D.m ∨ k = g)
 fr : Fr w w6 F F
theorem qak {D : PD} {w w6 : World} {F : Nat → Prop} {g cap : Nat} {T : List PrP} (h : PrS D w F T) (hb : w.heap[D.b]? = some (prO D (.slice (some ⟨g,0,none⟩) (T.length + 1) cap))) (ho : w.ownsRow 0 90 4 (.slice (some ⟨g,0,none⟩) (T.length + 1) cap) (T.length + 1) (encP (mtL T))) (hF : ∀ k,F k ↔ (k = D.b ∨ k = D.m ∨ k = g))
  {x : Nat × Nat} (hx : x ∉ pqP T) (n l : Nat) (hn : NumB w6 D.m (T.length + 1) (fun y => if y = x then some (T.length + 1) else if y.1 ≤ 1000 ∧ y.2 ≤ 1000 then posE T y else none)) (hg : w.drew.grownBy w6 (some D.m)) : MidB D w w6 F g cap T (x.1,x.2,n,l) := by
 obtain ⟨es,cl,hm⟩ := h.num.isMap
 have hbm : D.b ≠ D.m := fun e => by rw [← e,hb] at hm; cases hm
 have hgm : g ≠ D.m := fun e => q14 ho hm (fun cs e => by cases e) (by rw [← e]; rfl)
 have st : ∀ k,k < w.heap.size → k ≠ D.m → w6.heap[k]? = w.heap[k]? := fun k hk hne => hg.block k hk (fun e => hne (by injection e))
 refine ⟨(st D.b (Array.getElem?_eq_some_iff.1 hb).1 hbm).trans hb,qb ho fun k hk => ?_,hn.alike fun y => q8o h.ok hx n l y,hF,hg.os,hg.tape,hg.output,hg.size,fun k hk hf => st k hk (fun e => hf ((hF k).2 (.inr (.inl e)))),fun k hk => .inl hk⟩
 have e : k = g := by injection hk with hk; exact hk.symm
 subst e
 exact st k (ho.lt k rfl).2 hgm
def NmbR (D : PD) (T : List PrP) (x : Nat × Nat) (n l : Nat) (F : Nat → Prop) (w : World) (e : Ending) (w' : World) : Prop := e = .returned (.int .i64 (nmE T x : Int)) ∧ ∃ F',PrS D w' F' (putEb T x n l) ∧ Fr w w' F F'
theorem qaq {D : PD} {w w6 w7 : World} {F : Nat → Prop} {g cap : Nat} {T : List PrP} (h : PrS D w F T) {x : Nat × Nat} (hx : x ∉ pqP T) (hx2 : x.1 ≤ 1000 ∧ x.2 ≤ 1000) {n l : Nat} (m : MidB D w w6 F g cap T (x.1,x.2,n,l)) {g5 c5 : Nat}
  (hg : (w6.alloc (mtO (x.1,x.2,n,l))).drew.grownBy w7 (some g)) (ho : w7.ownsRow 0 90 4 (.slice (some ⟨g5,0,none⟩) (T.length + 1 + 1) c5) (T.length + 1 + 1) (encP (mtL T ++ [(x.1,x.2,n,l)])))
  (hl : some g = some g5 ∨ g5 = (w6.alloc (mtO (x.1,x.2,n,l))).drew.heap.size) :
  w7.heap[D.b]? = some (prO D (.slice (some ⟨g,0,none⟩) (T.length + 1) cap)) ∧ NmbR D T x n l F w (.returned (.int .i64 ((T.length + 1 : Nat) : Int))) (w7.setCell ⟨D.b,5,none⟩ (.slice (some ⟨g5,0,none⟩) (T.length + 1 + 1) c5)) := by
 have hb1 := q5 w6 (mtO (x.1,x.2,n,l))
 obtain ⟨es,cl,hm⟩ := m.num.isMap
 have hgb : g ≠ D.b := fun e => q14 m.row m.blk (fun cs e => by unfold prO at e; injection e with _ e _; exact absurd e (by decide)) (by rw [← e]; rfl)
 have hgm : g ≠ D.m := fun e => q14 m.row hm (fun cs e => by cases e) (by rw [← e]; rfl)
 have hbm : D.b ≠ D.m := fun e => by have := m.blk; rw [e,hm] at this; cases this
 have hz : (w6.alloc (mtO (x.1,x.2,n,l))).drew.heap.size = w6.heap.size + 1 := by simp
 have st : ∀ k,k < w6.heap.size → k ≠ g → w7.heap[k]? = w6.heap[k]? := fun k hk hn => (hg.block k (by omega) (fun e => hn (by injection e))).trans (hb1.block k hk)
 have hbl := (Array.getElem?_eq_some_iff.1 m.blk).1
 have h7 := (st D.b hbl (Ne.symm hgb)).trans m.blk
 have hs7 := hg.size
 have hsz := m.fr.size
 have hg5 : g5 = g ∨ w6.heap.size ≤ g5 := by
  rcases hl with e | e
  ·injection e with e; exact .inl e.symm
  ·right; omega
 have hg5b : g5 ≠ D.b := fun e => by
  rcases hg5 with e2 | e2
  ·exact hgb (e2.symm.trans e)
  ·omega
 refine ⟨h7,by rw [q75 hx],fun k => k = D.b ∨ k = D.m ∨ k = g5,?_,?_⟩
 ·rw [putEb,if_neg hx]
  have hfr : Fr w (w7.setCell ⟨D.b,5,none⟩ (.slice (some ⟨g5,0,none⟩) (T.length + 1 + 1) c5)) F (fun k => k = D.b ∨ k = D.m ∨ k = g5) := by
   refine ⟨hg.os.trans m.fr.os,hg.tape.trans m.fr.tape,hg.output.trans m.fr.output,by simp; omega,fun k hk hf => ?_,fun k hk => ?_⟩
   ·have hf' := fun e => hf ((m.fF k).2 e)
    exact (Below.heap_setCell _ _ _ _ (by dsimp only; exact fun e => hf' (.inl e))).trans ((st k (by omega) (fun e => hf' (.inr (.inr e)))).trans (m.fr.keep k hk hf))
   ·rcases hk with rfl | rfl | rfl
    ·exact .inl ((m.fF _).2 (.inl rfl))
    ·exact .inl ((m.fF _).2 (.inr (.inl rfl)))
    ·rcases hg5 with rfl | e
     ·exact .inl ((m.fF _).2 (.inr (.inr rfl)))
     ·right; omega
  have hwl := h.bel.size
  refine ⟨h.bel.trans (hfr.below h.ge hwl),fun k hk => hfr.ge h.ge hwl k hk,fun e he => ?_,h.rA.fr hfr h.noZ,h.rB.fr hfr h.noZ,h.bA,h.bB,?_,.slice (some ⟨g5,0,none⟩) (T.length + 1 + 1) c5,?_,?_,fun k => ?_⟩
  ·rcases List.mem_append.1 he with he | he
   ·exact h.ok e he
   ·simp at he; subst he; exact hx2
  ·rw [List.length_append,List.length_singleton]
   exact m.num.far ((Below.heap_setCell _ _ _ _ (by dsimp only; exact Ne.symm hbm)).trans (st D.m m.num.lt (Ne.symm hgm)))
  ·unfold prO at h7 ⊢
   rw [heap_setCell_same w7 D.b 5 _ _ _ h7]; rfl
  ·rw [List.length_append,List.length_singleton]
   refine qb ho fun k hk => Below.heap_setCell _ _ _ _ ?_
   have e : g5 = k := by injection hk
   dsimp only
   rw [← e]; exact hg5b
  ·simp only [Value.ownBlock,Option.some.injEq,eq_comm (a := g5)]
 ·refine ⟨hg.os.trans m.fr.os,hg.tape.trans m.fr.tape,hg.output.trans m.fr.output,by simp; omega,fun k hk hf => ?_,fun k hk => ?_⟩
  ·have hf' := fun e => hf ((m.fF k).2 e)
   exact (Below.heap_setCell _ _ _ _ (by dsimp only; exact fun e => hf' (.inl e))).trans ((st k (by omega) (fun e => hf' (.inr (.inr e)))).trans (m.fr.keep k hk hf))
  ·rcases hk with rfl | rfl | rfl
   ·exact .inl ((m.fF _).2 (.inl rfl))
   ·exact .inl ((m.fF _).2 (.inr (.inl rfl)))
   ·rcases hg5 with rfl | e
    ·exact .inl ((m.fF _).2 (.inr (.inr rfl)))
    ·right; omega
theorem q4o {D : PD} {w : World} {F : Nat → Prop} {T : List PrP} (h : PrS D w F T) (x : Nat × Nat) (n l : Nat) (hx : x.1 ≤ 1000 ∧ x.2 ≤ 1000) (hT : T.length ≤ 100000) :
  Calls Try.prog 63 #[.pointer (some ⟨D.b,0,none⟩),.agg #[.int .i64 (x.1 : Int),.int .i64 (x.2 : Int),.int .i64 (n : Int),.int .u8 (l : Int)]] w (NmbR D T x n l F w) := by
 have hb1 := q5 w (mtO (x.1,x.2,n,l))
 have HB1 : Hid _ := hb1
 have h1 := h.up hb1
 obtain ⟨g,cap,hblk,hrow,hF⟩ := h1.read
 have c4 : (w.alloc (mtO (x.1,x.2,n,l))).cell? ⟨D.b,4,none⟩ = some (.map (some D.m)) := q6 hblk 4
 have hlk := fun k => (show NumB ((w.alloc (mtO (x.1,x.2,n,l))).drewN k) D.m T.length (posE T) from h1.num).look hx
 have HI : Hid _ := h
 have hbx := (MapKept.heap_alloc w (mtO (x.1,x.2,n,l))).1
 have HBX : Hid _ := hbx
 by_cases hm : x ∈ pqP T
 ·have HE : Hid (∀ nq,NmbR D T x n l F w (.returned (.int .i64 (nmE T x : Int))) ((w.alloc (mtO (x.1,x.2,n,l))).drewN nq)) := fun nq => by
   refine ⟨rfl,F,?_,Fr.ofBelow (below_drewN hb1 nq)⟩
   rw [putEb,if_pos hm]
   exact h.up (below_drewN hb1 nq)
  rw [show posE T x = some (nmE T x) from if_pos hm] at hlk
  generalize NmbR D T x n l F w = Q at *
  generalize nmE T x = j at *
  clear h h1 hblk hrow hF hx hb1 hbx hm HB1 HI HBX hT
  generalize D.b = b at *
  generalize D.m = m at *
  unfold b2V at hlk
  unfold mtO at c4 HE hlk
  dsimp only [Option.getD,Option.isSome] at c4 HE hlk
  go_enter Try.func63,Try.ntmps63
  go_upto_region 15 with fail
  go_quiet (fail)
  go_wp2
  exact HE.out _
 ·have HNM : Hid _ := hm
  have HX : Hid _ := hx
  rw [show posE T x = none from if_neg hm] at hlk
  generalize hQ : NmbR D T x n l F w = Q
  clear h h1 hblk hrow hF hx hb1 hbx hm
  unfold b2V at hlk
  unfold mtO at c4 hlk HB1 HBX
  dsimp only [Option.getD,Option.isSome] at c4 hlk HB1 HBX
  have HQQ : Hid _ := hQ
  clear hQ
  go_enter Try.func63,Try.ntmps63
  go_upto_region 15 with fail
  go_quiet (fail)
  have HBq : Hid _ := below_drewN HB1.out nq
  have hbq : ((w.alloc (.cells #[.int .i64 (x.1 : Int),.int .i64 (x.2 : Int),.int .i64 (n : Int),.int .u8 (l : Int)] 90 (0,0))).drewN nq).heap[w.heap.size]? = some (.cells #[.int .i64 (x.1 : Int),.int .i64 (x.2 : Int),.int .i64 (n : Int),.int .u8 (l : Int)] 90 (0,0)) := by simpa using HBX.out
  have HBXq : Hid _ := hbq
  clear hlk c4 hbq HB1 HBX
  generalize (w.alloc (.cells #[.int .i64 (x.1 : Int),.int .i64 (x.2 : Int),.int .i64 (n : Int),.int .u8 (l : Int)] 90 (0,0))).drewN nq = w1 at *
  have HI1 : Hid _ := HI.out.up HBq.out
  obtain ⟨g,cap,hblk,hrow,hF⟩ := HI1.out.read
  have HF : Hid _ := hF
  have c4 : w1.cell? ⟨D.b,4,none⟩ = some (.map (some D.m)) := q6 hblk 4
  have c5 : w1.cell? ⟨D.b,5,none⟩ = some (.slice (some ⟨g,0,none⟩) (T.length + 1) cap) := q6 hblk 5
  have b0 : w1.cell? ⟨w.heap.size,0,none⟩ = some (.int .i64 (x.1 : Int)) := q6 HBXq.out 0
  have b1 : w1.cell? ⟨w.heap.size,1,none⟩ = some (.int .i64 (x.2 : Int)) := q6 HBXq.out 1
  obtain ⟨w6,hrun,hn6,hg6⟩ := (show NumB w1.drew D.m T.length (posE T) from HI1.out.num).put (by omega) (x := x) HX.out (if_neg HNM.out) (T.length + 1) (by omega)
  unfold b2V at hrun
  have HM : Hid _ := qak HI1.out hblk hrow hF HNM.out n l hn6 hg6
  clear hblk hrow hF hn6 hg6
  have hwb : w.heap.size ≠ D.b ∧ w.heap.size ≠ D.m ∧ w.heap.size ≠ g := by
   have hlt := HI.out.lt
   obtain ⟨g0,cap0,hblk0,hrow0,hF0⟩ := HI.out.read
   have hblk1 := (HBq.out.block D.b (Array.getElem?_eq_some_iff.1 hblk0).1).trans hblk0
   have := q6 hblk1 5
   rw [c5] at this
   have eg : g = g0 := by
    have := Option.some.inj this
    injection this with this
    injection this with this
    injection this with this
   have a1 := hlt D.b ((hF0 _).2 (.inl rfl))
   have a2 := hlt D.m ((hF0 _).2 (.inr (.inl rfl)))
   have a3 := hlt g0 ((hF0 _).2 (.inr (.inr rfl)))
   omega
  have HWB : Hid _ := hwb
  clear hwb
  generalize hL : T.length = L at *
  have HL : Hid (T.length = L) := hL
  clear hL
  rw [show ((L + 1 : Nat) : Int) = (L : Int) + 1 from rfl] at hrun
  go_upto_region 15 with fail
  go_region
  all_goals
   clear hrun c4 c5 b0 b1
   have hm6 := HM.out
   have c5 : w6.cell? ⟨D.b,5,none⟩ = some (.slice (some ⟨g,0,none⟩) (T.length + 1) cap) := q6 hm6.blk 5
   have hbx6 := (hm6.fr.keep w.heap.size (World.block_lt_of_cell? _ _ (q6 HBXq.out 0)) (fun e => by
    rcases (HF.out _).1 e with e | e | e
    ·exact HWB.out.1 e
    ·exact HWB.out.2.1 e
    ·exact HWB.out.2.2 e)).trans HBXq.out
   have b0 : w6.cell? ⟨w.heap.size,0,none⟩ = some (.int .i64 (x.1 : Int)) := q6 hbx6 0
   have b1 : w6.cell? ⟨w.heap.size,1,none⟩ = some (.int .i64 (x.2 : Int)) := q6 hbx6 1
   have b2 : w6.cell? ⟨w.heap.size,2,none⟩ = some (.int .i64 (n : Int)) := q6 hbx6 2
   have b3 : w6.cell? ⟨w.heap.size,3,none⟩ = some (.int .u8 (l : Int)) := q6 hbx6 3
   have hO : (w6.alloc (.cells #[.int .i64 (x.1 : Int),.int .i64 (x.2 : Int),.int .i64 (n : Int),.int .u8 (l : Int)] 90 (0,0))).drew.ownsRow 0 90 4 (.slice (some ⟨g,0,none⟩) (T.length + 1) cap) (T.length + 1) (encP (mtL T)) := World.ownsRow.alloc hm6.row _
   have hB : (w6.alloc (.cells #[.int .i64 (x.1 : Int),.int .i64 (x.2 : Int),.int .i64 (n : Int),.int .u8 (l : Int)] 90 (0,0))).drew.heap[w6.heap.size]? = some (mtO (x.1,x.2,n,l)) := (MapKept.heap_alloc w6 _).1
   have c5b : (w6.alloc (.cells #[.int .i64 (x.1 : Int),.int .i64 (x.2 : Int),.int .i64 (n : Int),.int .u8 (l : Int)] 90 (0,0))).cell? ⟨D.b,5,none⟩ = some (.slice (some ⟨g,0,none⟩) (T.length + 1) cap) := q8 c5 (q5 w6 _)
   have HFIN : Hid _ := fun g5 c5 w7 q1 q2 q3 => qaq (w7 := w7) HI1.out HNM.out HX.out hm6 (g5 := g5) (c5 := c5) q1 q2 q3
   unfold mtO at HFIN
   rw [HL.out] at c5 hO c5b HFIN
   clear hm6 hbx6 HM
   go_upto_region 15 with fail
   go_region_law ((refine q5L rfl _ _ rfl 0 (.slice (some ⟨g,0,none⟩) (L + 1) cap) (L + 1) (mtL T) (x.1,x.2,n,l) w6.heap.size rfl rfl hO hB (by omega) (Nat.zero_le _) ?_; intro g5 d5 w7 hown5 hgr5 hloc5; have m5 := HFIN.out g5 d5 w7 hgr5 hown5 hloc5; have c5' : w7.cell? ⟨D.b,5,none⟩ = some (.slice (some ⟨g,0,none⟩) (L + 1) cap) := q6 m5.1 5; have z5 : w7.frozen? ⟨D.b,5,none⟩ = false := frozen_of_row w7 _ 5 _ _ m5.1))
   all_goals
    have HE : Hid (Q (.returned (.int .i64 ((L : Int) + 1))) (w7.setCell ⟨D.b,5,none⟩ (.slice (some ⟨g5,0,none⟩) (L + 1 + 1) d5))) := by
     obtain ⟨e1,F',e2,e3⟩ := m5.2
     show Q _ _
     rw [← HQQ.out]
     exact ⟨e1,F',e2,(Fr.ofBelow HBq.out).trans e3⟩
    clear hO hB c5 c5b b0 b1 b2 b3 c5' z5 m5 hown5 hgr5 hloc5 HFIN
    go_wp2
    exact HE.out
end Go.Proofs.Ytcnkgokfjafgkaa
