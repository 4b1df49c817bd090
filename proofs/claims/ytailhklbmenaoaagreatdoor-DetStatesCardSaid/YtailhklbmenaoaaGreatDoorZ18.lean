/- Texts of the proof, put together: what it uses. -/
import Derived.Laws.BitsAllLaws
import Derived.Test.YtailhklbmenaoaaGreatDoorZ03
import Derived.Test.YtailhklbmenaoaaGreatDoorZ04
import Derived.Test.YtailhklbmenaoaaGreatDoorZ07
import Derived.Test.YtailhklbmenaoaaGreatDoorZ08
import Derived.Test.YtailhklbmenaoaaGreatDoorZ12
import Derived.Test.YtailhklbmenaoaaGreatDoorZ14
import Derived.Test.YtailhklbmenaoaaGreatDoorZ17
set_option maxRecDepth 100000
set_option maxHeartbeats 16000000
namespace Go.Proofs.YtailhklbmenaoaaGreatDoor
open Go.RowKit Go.Maps
theorem q7u (n : Nat) : (Builtin.zeroCells (Value.int .u64 0).cells n).size = n * 1 := by
 rw [size_zeroCells]; rfl
theorem qdv (l k : List Nat) : iU (l ++ k) = iU l ++ iU k := by simp [iU]
theorem q7D {w : World} {ops : Array Oper} {rest : List Oper} {o : Oper} {a : Act} {Q : Exit → Act → World → Prop} (hgd : o.guard = none) (s x : Operand)
  (ho : o.op = .call { callee := .builtin .append,args := #[s,x],argTypes := #[46,46] }) (base : Nat)
  (v : Value) (xs ys : List Nat) (b : Option Addr) (len cap : Nat) (hs : a.eval s = v) (hx : a.eval x = .slice b len cap) (hown : w.ownsRow base 55 1 v xs.length ((iU xs).map (Value.int .u64))) (hT : USl w b len cap ys)
  (hn : xs.length ≤ 10000000) (hm : ys.length ≤ 10000000) (hbase : base ≤ w.heap.size)
  (h : ∀ v' w',w'.ownsRow base 55 1 v' (xs ++ ys).length ((iU (xs ++ ys)).map (Value.int .u64)) → w.grownBy w' v.ownBlock → wpList Tryz.prog ops Q rest (a.put o.dst v') w') : wpList Tryz.prog ops Q (o :: rest) a w := by
 obtain ⟨i,hi,hz0,hz1,hz2⟩ := info_parts q25
 have hl := hT.len
 cases b with
 | none =>
  have hc := hT.nn rfl
  have hcl := hT.hcap
  obtain rfl : len = 0 := by omega
  subst hc
  have hy : ys = [] := List.eq_nil_of_length_eq_zero hl.symm
  subst hy
  refine wpList_plain hgd fun _ hK => ?_
  have hrun := run_append_owned_none (P := Tryz.prog) w base 46 o.type 55 i 1 Tryz.underlying46 hi v xs.length _ hown
  unfold Oper.wp execOp
  simp only [ho,resolve,invoke,builtin,Sem.run_bind,Sem.run_pure,Result.andThen_ok,List.map_toArray,List.map_cons,List.map_nil,hs,hx,hrun]
  refine hK _ _ ?_
  exact h v w (by rw [List.append_nil]; exact hown) (World.grownBy.refl _ _)
 | some y =>
  refine wpList_append_own w hgd s x 46 ho base 55 i _ 1 8 Tryz.underlying46 hi hz0 hz1 hz2 rfl (by decide) v xs.length _ hs hown y len cap ((iU ys).map (Value.int .u64)) hx (by simp [hl]) (q9j hT) (ints_oneCell .u64 (iU ys)) (by unfold maxLen; omega) (by omega) hbase ?_
  intro v' w' h1 h2 _
  exact h v' w' (by rw [qdv,List.map_append,List.length_append,← hl]; exact h1) h2
theorem q54 {w : World} {ops : Array Oper} {rest : List Oper} {o : Oper} {a : Act} {Q : Exit → Act → World → Prop} (hgd : o.guard = none) (s x : Operand)
  (ho : o.op = .call { callee := .builtin .append,args := #[s,x],argTypes := #[46,3] }) (n : Nat) (hs : a.eval s = .slice none 0 0) (hx : a.eval x = .int .i64 (n : Int)) (h0 : 0 < n) (hn : n ≤ 1000000)
  (h : ∀ G w',n ≤ G → w'.ownsRow w.heap.size 55 1 (.slice (some ⟨w.heap.size,0,none⟩) 0 G) 0 (([] : List Value)) → Below w.heap.size w w' → wpList Tryz.prog ops Q rest (a.put o.dst (.slice (some ⟨w.heap.size,0,none⟩) n G)) w') : wpList Tryz.prog ops Q (o :: rest) a w := by
 refine wpList_plain hgd fun _ hK => ?_
 obtain ⟨i,hi,hz0,hz1,hz2⟩ := info_parts q25
 have hrz : ∀ ty,(Builtin.append_ #[46,3] ty #[.slice none 0 0,.int .i64 (n : Int)]).run Tryz.prog w = .ok (.slice (some ⟨w.heap.size,0,none⟩) n (grownCap w n 0 55)) (w.drew.alloc (.cells (Builtin.zeroCells (Value.int .u64 0).cells n ++ Builtin.zeroCells (Value.int .u64 0).cells (grownCap w n 0 55 - n)) 55)) := fun ty => by
  have h := Lib.run_append_grow_zeros w 46 3 ty 55 i (.int .u64 0) .i64 .i64 Tryz.underlying46 Tryz.underlying3 hi hz0 none 0 0 [] (run_firstCells_none w.drew i.size 0 0 0) n (by omega) (by omega) (by omega) (by omega) (by rw [hz2]; omega) (growslice_fits (by omega) (by rw [hz2]; omega))
  simpa using h
 have hG := grownCap_ge w n 0 55
 have hG2 := grownCap_le_maxLen w n 0 55 (by unfold maxLen; omega)
 have hcs : (Builtin.zeroCells (Value.int .u64 0).cells n ++ Builtin.zeroCells (Value.int .u64 0).cells (grownCap w n 0 55 - n)).size = grownCap w n 0 55 * 1 := by
  rw [Array.size_append,q7u,q7u]; omega
 generalize Builtin.zeroCells (Value.int .u64 0).cells n ++ Builtin.zeroCells (Value.int .u64 0).cells (grownCap w n 0 55 - n) = cs at *
 generalize grownCap w n 0 55 = G at *
 have HW : (w.drew.alloc (.cells cs 55)).ownsRow w.heap.size 55 1 (.slice (some ⟨w.heap.size,0,none⟩) 0 G) 0 (([] : List Value)) := ⟨rfl,Or.inr ⟨w.heap.size,G,cs,rfl,Nat.le_refl _,(MapKept.heap_alloc w.drew _).1,Nat.zero_le _,hG2,hcs,rfl⟩⟩
 have HB : Below w.heap.size w (w.drew.alloc (.cells cs 55)) := (Below.refl _ w).drew.alloc (Nat.le_refl _) _
 have hrun := hrz o.type
 unfold Oper.wp execOp
 simp only [ho,resolve,invoke,builtin,Sem.run_bind,Sem.run_pure,Result.andThen_ok,List.map_toArray,List.map_cons,List.map_nil,hs,hx,hrun]
 exact hK _ _ (h G _ hG HW HB)
theorem q7Q (n : Nat) (w : World) (hn : n ≤ 1000000) :
  Calls Tryz.prog 169 #[.slice none 0 0,.int .i64 (n : Int)] w fun e w' => ∃ v,e = .returned v ∧ w'.ownsRow w.heap.size 55 1 v 0 (([] : List Value)) ∧ Below w.heap.size w w' := by
 have h1 : ¬ ((n : Int) < 0) := by omega
 by_cases h0 : n = 0
 ·subst h0
  go_enter Tryz.func169,Tryz.ntmps169
  go_wp2
  go_ret
  exact ⟨_,rfl,⟨rfl,Or.inl ⟨rfl,rfl⟩⟩,Below.refl _ _⟩
 ·have hpos : (0 : Int) < (n : Int) := by omega
  have hw2 : IntKind.i64.wrap ((n : Int) - 0) = (n : Int) := by rw [IntKind.wrap_i64]; omega
  go_enter Tryz.func169,Tryz.ntmps169
  go_wp2_with (at_builtin; refine q54 rfl _ _ rfl n rfl rfl (by omega) hn ?_)
  intro G w' hG HW HB
  have HW1 : Hid (World.ownsRow w' w.heap.size 55 1 (.slice (some ⟨w.heap.size,0,none⟩) 0 G) 0 (([] : List Value))) := HW
  clear HW
  have hG0 : G ≠ 0 := by omega
  go_wp2
  go_ret
  exact ⟨.slice (some ⟨w.heap.size,0,none⟩) 0 G,rfl,HW1.out,HB⟩
structure PcU where
 a : Option Addr
 len : Nat
 cap : Nat
 ts : List Nat
def joinU (ps : List PcU) : List Nat := ps.flatMap (·.ts)
def lensU (ps : List PcU) (k : Nat) : Nat := (joinU (ps.take k)).length
theorem q7j {ps : List PcU} {k : Nat} (h : k < ps.length) : joinU (ps.take (k + 1)) = joinU (ps.take k) ++ ps[k].ts := by
 unfold joinU; rw [List.take_add_one,List.getElem?_eq_getElem h,List.flatMap_append]; simp
theorem qey (ps : List PcU) (k : Nat) : (joinU (ps.take k)).length ≤ (joinU ps).length := by
 have h : joinU ps = joinU (ps.take k) ++ joinU (ps.drop k) := by
  unfold joinU; rw [← List.flatMap_append,List.take_append_drop]
 rw [h,List.length_append]; omega
theorem q5e : (Tryz.prog.info? 46).map (·.size) = some 1 := by kernel_rfl
theorem q61 (g : Nat) (ps : List PcU) (w : World) (hc : ∀ k (h : k < ps.length),w.cell? ⟨g,k,none⟩ = some (.slice ps[k].a ps[k].len ps[k].cap)) (hg : g < w.heap.size) (hT : ∀ p ∈ ps,USl w p.a p.len p.cap p.ts) (hn : (joinU ps).length ≤ 1000000) (hp : ps.length ≤ 1000) :
  Calls Tryz.prog 160 #[.slice (some ⟨g,0,none⟩) ps.length ps.length] w fun e w' => ∃ v,e = .returned v ∧ w'.ownsRow w.heap.size 55 1 v (joinU ps).length ((iU (joinU ps)).map (Value.int .u64)) ∧ Below w.heap.size w w' := by
 have hix : ∀ k w',k < ps.length → (Instr.indexAt 41 (.slice (some ⟨g,0,none⟩) ps.length ps.length) (.int .i64 (k : Nat))).run Tryz.prog w' = .ok (.pointer (some ⟨g,k,none⟩)) w' := fun k w' h => by
  have := q1j (a := some ⟨g,0,none⟩) (cap := ps.length) (n := ps.length) Tryz.underlying41 q5e (by simp) k w' h
  simpa [adOf,qi] using this
 have HC : Hid _ := hc
 have HT : Hid _ := hT
 clear hc hT
 have hgr := fun (n : Nat) (h : n ≤ 1000000) w' => q7Q n w' h
 obtain ⟨n,hnn⟩ : ∃ n,n = ps.length := ⟨_,rfl⟩
 have HN : Hid (n = ps.length) := hnn
 rw [← hnn] at hp hix ⊢
 clear hnn
 have hbk0 : ∀ k,(joinU (ps.take k)).length ≤ 1000000 := fun k => Nat.le_trans (qey ps k) hn
 go_enter Tryz.func160,Tryz.ntmps160
 go_wp2
 go_loopw [3,11] (fun s j wr => ∃ k : Nat,k ≤ n ∧ j = .int .i64 k ∧ s = .int .i64 (lensU ps k : Nat) ∧ wr = w) (fun _ j _ => n - (intOf j).toNat)
 case atStart => exact ⟨0,Nat.zero_le _,rfl,by simp [lensU,joinU],rfl⟩
 case round =>
  obtain ⟨k,hk,rfl,rfl,hww⟩ := hrel
  obtain rfl : w = wr := hww.symm
  by_cases hlt : k < n
  ·have hkl : k < ps.length := by rw [← HN.out]; exact hlt
   have hi := fun w' => hix k w' hlt
   have hc1 := HC.out k hkl
   have hl := (HT.out ps[k] (List.getElem_mem hkl)).len
   have HLL : Hid _ := hl
   have HS : Hid (lensU ps (k + 1) = lensU ps k + ps[k].len) := by
    show _ = _; unfold lensU; rw [q7j hkl,List.length_append,hl]
   have hb1 : lensU ps k + ps[k].len ≤ 1000000 := by rw [← HS.out]; exact hbk0 (k + 1)
   generalize lensU ps k = S at *
   generalize ps[k] = p at *
   obtain ⟨pa,pl,pc,pt⟩ := p
   dsimp only at *
   have hw : IntKind.i64.wrap ((S : Int) + (pl : Int)) = ((S + pl : Nat) : Int) := by rw [IntKind.wrap_i64]; omega
   have hneg : ¬ (((S + pl : Nat) : Int) < 0) := by omega
   clear hix
   go_wp2
   go_roundw
   case rel => exact ⟨k + 1,by omega,by go_num,by rw [HS.out]; simp [HLL.out],trivial⟩
   case measure => simp [intOf]; omega
  ·obtain rfl : k = n := by omega
   have hbn := hbk0 k
   have HJ : Hid (joinU (ps.take k) = joinU ps) := by show _ = _; rw [List.take_of_length_le (by rw [HN.out]; exact Nat.le_refl _)]
   have hgn := hgr (lensU ps k) hbn
   generalize lensU ps k = S at *
   clear hix
   have hix : ∀ j w',j < k → (Instr.indexAt 41 (.slice (some ⟨g,0,none⟩) k k) (.int .i64 (j : Nat))).run Tryz.prog w' = .ok (.pointer (some ⟨g,j,none⟩)) w' := fun j w' h => by
    have := q1j (a := some ⟨g,0,none⟩) (cap := k) (n := k) Tryz.underlying41 q5e (by simp) j w' h
    simpa [adOf,qi] using this
   go_wp2_with fail
   refine (hgn _).mono ?_
   rintro e w1 ⟨v,rfl,hown,hw1⟩
   have HO : Hid (w1.ownsRow w.heap.size 55 1 v 0 (([] : List Value))) := hown
   clear hown
   go_wp2
   go_loopw [6,27] (fun s j w2 => ∃ m : Nat,m ≤ k ∧ j = .int .i64 m ∧ Hid (w2.ownsRow w.heap.size 55 1 s (joinU (ps.take m)).length ((iU (joinU (ps.take m))).map (Value.int .u64))) ∧ Hid (Below w.heap.size w w2)) (fun _ j _ => k - (intOf j).toNat)
   case atStart => exact ⟨0,Nat.zero_le _,rfl,HO,hw1⟩
   case round =>
    obtain ⟨m,hm,rfl,HO2,hb2⟩ := hrel
    by_cases hltm : m < k
    ·have hml : m < ps.length := by rw [← HN.out]; exact hltm
     have hi := fun w' => hix m w' hltm
     have hc1 := (hb2.out.cell hg).trans (HC.out m hml)
     have hTm := (HT.out ps[m] (List.getElem_mem hml)).up hb2.out
     have HS : Hid (joinU (ps.take (m + 1)) = joinU (ps.take m) ++ ps[m].ts) := q7j hml
     have hbm := hbk0 m
     have hpm : ps[m].ts.length ≤ 1000000 := by
      have := hbk0 (m + 1); rw [HS.out,List.length_append] at this; omega
     have hlt := World.ownsRow.lt HO2.out
     have hsz := hb2.out.size
     generalize joinU (ps.take m) = J at *
     generalize ps[m] = p at *
     obtain ⟨pa,pl,pc,pt⟩ := p
     dsimp only at *
     clear hix
     go_wp2_with (at_builtin; refine q7D rfl _ _ rfl w.heap.size _ J pt pa pl pc rfl rfl HO2.out hTm (by omega) (by omega) (by omega) ?_)
     intro v3 w3 hown3 hgr3
     have HO3 : Hid (w3.ownsRow w.heap.size 55 1 v3 (J ++ pt).length ((iU (J ++ pt)).map (Value.int .u64))) := by show World.ownsRow _ _ _ _ _ _ _; rw [List.length_append]; simpa using hown3
     have hb3 : Hid (Below w.heap.size w w3) := hb2.out.grown hgr3 hsz (fun j e => (hlt j e).1)
     clear hown3 hgr3
     go_wp2
     go_roundw
     case rel => exact ⟨m + 1,by omega,by go_num,by rw [HS.out]; exact HO3,hb3⟩
     case measure => simp [intOf]; omega
    ·obtain rfl : m = k := by omega
     have HF : Hid _ := HO2.out
     rw [HJ.out] at HF
     go_wp2
     go_ret
     exact ⟨_,rfl,HF.out,hb2.out⟩
theorem qbS (a : Option Addr) (n c : Nat) (l : List Nat) (b : Option Addr) (m d : Nat) (k : List Nat) (w : World) (hA : USl w a n c l) (hB : USl w b m d k) (sL : Sm l) (sK : Sm k) (hn : n + m ≤ 1024) :
  Calls Tryz.prog 151 #[.slice a n c,.slice b m d] w (LEN 0 (leastL (l ++ k)) w) := by
 have hl := hA.len
 have hk := hB.len
 have hbn := qd w (.cells #[.slice a n c,.slice b m d] 46)
 have hrow := (MapKept.heap_alloc w (.cells #[.slice a n c,.slice b m d] 46)).1
 have hj : joinU [⟨a,n,c,l⟩,⟨b,m,d,k⟩] = l ++ k := by simp [joinU]
 have hcc := q61 w.heap.size [⟨a,n,c,l⟩,⟨b,m,d,k⟩] (w.alloc (.cells #[.slice a n c,.slice b m d] 46)) (fun i hi => by
   rw [qb hrow i]
   match i,hi with
   | 0,_ => rfl
   | 1,_ => rfl) (by simp) (fun p hp => by
   rcases List.mem_cons.1 hp with rfl | hp
   ·exact hA.up hbn
   ·rcases List.mem_cons.1 hp with rfl | hp
    ·exact hB.up hbn
    ·cases hp) (by rw [hj,List.length_append]; omega) (by simp)
 rw [hj] at hcc
 dsimp only [List.length_cons,List.length_nil,Nat.zero_add,Nat.reduceAdd] at hcc
 have HL : Hid (∀ w1 v,w1.ownsRow (w.alloc (.cells #[.slice a n c,.slice b m d] 46)).heap.size 55 1 v (l ++ k).length ((iU (l ++ k)).map (Value.int .u64)) → ∃ q C,v = .slice q (l ++ k).length C ∧ Calls Tryz.prog 36 #[.slice q (l ++ k).length C] w1 (LRN (leastL (l ++ k)) w1)) := fun w1 v ho => by
  obtain ⟨q,C,rfl,hU⟩ := q8K ho
  exact ⟨q,C,rfl,q2C q _ C _ w1 hU (qe3 sL sK) (by rw [List.length_append]; omega)⟩
 have HBN : Hid _ := hbn
 have hw1 : IntKind.i64.wrap ((n : Int) + (m : Int)) = ((n + m : Nat) : Int) := by rw [IntKind.wrap_i64]; omega
 have hg1 : ¬ ((1024 : Int) < ((n + m : Nat) : Int)) := by omega
 have hb1 := hA.bd
 have hb2 := hB.bd
 clear hbn hrow hA hB sL sK hj hl hk
 generalize leastL (l ++ k) = r at *
 generalize l ++ k = lk at *
 go_enter Tryz.func151,Tryz.ntmps151
 go_wp2_with fail
 refine hcc.mono ?_
 rintro e w1 ⟨v,rfl,hown,hb⟩
 obtain ⟨q,C,rfl,hle⟩ := HL.out w1 v hown
 have HB1 : Hid (Below w.heap.size w w1) := qe HBN.out hb
 clear hown hb hcc HL HBN
 go_wp2_with fail
 refine hle.mono ?_
 rintro e w2 ⟨q2,C2,rfl,hU2,hb2,hf2⟩
 have HU : Hid _ := hU2
 have HB2 : Hid (Below w.heap.size w w2) := qe HB1.out hb2
 have HFS : Hid (∀ k,k < r.length → w.heap.size ≤ (adOf q2 k).block) := fun k hk => Nat.le_trans HB1.out.size (hf2 k hk)
 clear hU2 hb2 HB1 hle hf2
 go_wp2
 go_ret2
 exact ⟨q2,C2,rfl,HU.out,HB2.out,HFS.out⟩
theorem qcH (a : Option Addr) (n c : Nat) (b : Option Addr) (m d : Nat) (w : World) (hn1 : n ≤ 1000000) (hn2 : m ≤ 1000000) (hn : 1024 < n + m) :
  Calls Tryz.prog 151 #[.slice a n c,.slice b m d] w (LE 9 [] w) := by
 have hw1 : IntKind.i64.wrap ((n : Int) + (m : Int)) = ((n + m : Nat) : Int) := by rw [IntKind.wrap_i64]; omega
 have hg1 : (1024 : Int) < ((n + m : Nat) : Int) := by omega
 go_enter Tryz.func151,Tryz.ntmps151
 go_wp2
 go_ret2
 exact ⟨none,0,rfl,q5H,Below.refl _ _⟩
theorem q4N (n m : Nat) (w : World) (_hn : n ≤ 1000000) (_hm : m ≤ 1000000) :
  Calls Tryz.prog 159 #[.int .i64 (n : Int),.int .i64 (m : Int)] w fun e w' => e = .returned (.bool (decide (1024 < n * m))) ∧ w' = w := by
 by_cases h0 : n = 0
 ·subst h0
  go_enter Tryz.func159,Tryz.ntmps159
  go_wp2
  go_ret
  exact ⟨by simp,rfl⟩
 ·have hpos : (0 : Int) < (n : Int) := by omega
  have hne : ¬ ((n : Int) = 0) := by omega
  have hq : IntKind.i64.wrap ((1024 : Int).tdiv (n : Int)) = ((1024 / n : Nat) : Int) := by
   have : (1024 : Int).tdiv (n : Int) = ((1024 / n : Nat) : Int) := rfl
   rw [this,IntKind.wrap_i64]
   have h2 := Nat.div_le_self 1024 n
   generalize 1024 / n = q at *
   omega
  have HD : Hid (decide (1024 / n < m) = decide (1024 < n * m)) := by
   show _ = _
   have h1 : 1024 / n < m ↔ 1024 < n * m := by rw [Nat.div_lt_iff_lt_mul (by omega),Nat.mul_comm]
   by_cases h : 1024 < n * m
   ·rw [decide_eq_true h,decide_eq_true (h1.2 h)]
   ·rw [decide_eq_false h,decide_eq_false fun k => h (h1.1 k)]
  generalize 1024 / n = q at *
  go_enter Tryz.func159,Tryz.ntmps159
  go_wp2
  go_ret
  exact ⟨by rw [← HD.out]; rfl,rfl⟩
theorem qfb (l k : List Nat) (i j : Nat) (x : Nat) (hi : i < l.length) (hj : j ≤ k.length) : (uniL (l.take i) k ++ (k.take j).map fun y => x ||| y).length ≤ l.length * k.length := by
 rw [List.length_append,q3S,List.length_map,List.length_take,List.length_take,Nat.min_eq_left (by omega),Nat.min_eq_left hj]
 have : (i + 1) * k.length ≤ l.length * k.length := Nat.mul_le_mul_right _ hi
 rw [Nat.succ_mul] at this
 omega
theorem qcC {w : World} {a : Option Addr} {n c : Nat} {l : List Nat} (h : USl w a n c l) {k : Nat} (hk : k < n) : w.cell? (adOf a k) = some (.int .u64 ((l.getD k 0 : Nat) : Int)) := by
 rw [h.cell k hk]
 congr 2
 simp only [List.getD_eq_getElem?_getD,iU,List.getElem?_map]
 cases l[k]? <;> rfl
theorem qe4 {l : List Nat} (h : Sm l) {k : Nat} (hk : k < l.length) : l.getD k 0 < 18446744073709551616 := by
 rw [List.getD_eq_getElem?_getD,List.getElem?_eq_getElem hk]
 exact h _ (List.getElem_mem hk)
theorem qa6 (a : Option Addr) (n c : Nat) (l : List Nat) (b : Option Addr) (m d : Nat) (k : List Nat) (w : World) (hA : USl w a n c l) (hB : USl w b m d k) (sL : Sm l) (sK : Sm k) (hn : n * m ≤ 1024) (hn1 : n ≤ 2000) (hm1 : m ≤ 2000) :
  Calls Tryz.prog 150 #[.slice a n c,.slice b m d] w (LEN 0 (leastL (uniL l k)) w) := by
 have hl := hA.len
 have hk := hB.len
 have hmany := q4N n m w (by omega) (by omega)
 rw [decide_eq_false (by omega : ¬ (1024 < n * m))] at hmany
 have HL : Hid (∀ w1 v,w1.ownsRow w.heap.size 55 1 v (uniL l k).length ((iU (uniL l k)).map (Value.int .u64)) → ∃ q C,v = .slice q (uniL l k).length C ∧ Calls Tryz.prog 36 #[.slice q (uniL l k).length C] w1 (LRN (leastL (uniL l k)) w1)) := fun w1 v ho => by
  obtain ⟨q,C,rfl,hU⟩ := q8K ho
  exact ⟨q,C,rfl,q2C q _ C _ w1 hU (qgP sL sK) (by rw [q3S,← hl,← hk]; omega)⟩
 have HLT : Hid (uniL (l.take n) k = uniL l k) := by show _ = _; rw [List.take_of_length_le (by omega)]
 have HN : Hid (∀ i,i < n → uniL (l.take (i + 1)) k = uniL (l.take i) k ++ (k.take m).map fun y => l.getD i 0 ||| y) := fun i hi => by
  rw [qfc (by omega),List.take_of_length_le (l := k) (by omega)]
 have HM : Hid (∀ x j,j < m → ((k.take (j + 1)).map fun y => x ||| y) = ((k.take j).map fun y => x ||| y) ++ [x ||| k.getD j 0]) := fun x j hj => qeF (by omega)
 have HW : Hid (∀ i j x,i < n → j ≤ m → (uniL (l.take i) k ++ (k.take j).map fun y => x ||| y).length ≤ 1024) := fun i j x hi hj => by
  have := qfb l k i j x (by omega) (by omega)
  rw [← hl,← hk] at this
  omega
 have HCA : Hid (∀ i,i < n → ∀ wr,Below w.heap.size w wr → wr.cell? (adOf a i) = some (.int .u64 ((l.getD i 0 : Nat) : Int))) := fun i hi wr hb => qcC (hA.up hb) hi
 have HCB : Hid (∀ i,i < m → ∀ wr,Below w.heap.size w wr → wr.cell? (adOf b i) = some (.int .u64 ((k.getD i 0 : Nat) : Int))) := fun i hi wr hb => qcC (hB.up hb) hi
 have HO : Hid (∀ i j,i < n → j < m → bits .or .u64 ((l.getD i 0 : Nat) : Int) ((k.getD j 0 : Nat) : Int) = ((l.getD i 0 ||| k.getD j 0 : Nat) : Int)) := fun i j hi hj => u64_or_nat _ _ (qe4 sL (by omega)) (qe4 sK (by omega))
 have hidA := fun (i : Nat) (w : World) (h : i < n) => hA.idx n i w h (Nat.le_refl _)
 have hidB := fun (i : Nat) (w : World) (h : i < m) => hB.idx m i w h (Nat.le_refl _)
 clear hA hB sL sK hl hk hn
 go_enter Tryz.func150,Tryz.ntmps150
 go_wp2_with fail
 refine hmany.mono ?_
 rintro e w0 ⟨rfl,hw0⟩
 obtain rfl : w = w0 := hw0.symm
 clear hmany
 go_wp2
 go_loopw [6,18] (fun v i wr => ∃ p : Nat,p ≤ n ∧ i = .int .i64 (p : Int) ∧ Hid (wr.ownsRow w.heap.size 55 1 v (uniL (l.take p) k).length ((iU (uniL (l.take p) k)).map (Value.int .u64))) ∧ Hid (Below w.heap.size w wr)) (fun _ i _ => n - (intOf i).toNat)
 case atStart => exact ⟨0,Nat.zero_le _,rfl,⟨rfl,Or.inl ⟨rfl,rfl⟩⟩,Below.refl _ _⟩
 case round =>
  obtain ⟨p,hp,rfl,HV,HB⟩ := hrel
  by_cases hlt : p < n
  ·have hc := HCA.out p hlt wr HB.out
   have hx := fun w' => hidA p w' hlt
   have HNp : Hid _ := HN.out p hlt
   have HWp : Hid (∀ j x,j ≤ m → (uniL (l.take p) k ++ (k.take j).map fun y => x ||| y).length ≤ 1024) := fun j x hj => HW.out p j x hlt hj
   have HOp : Hid (∀ j,j < m → bits .or .u64 ((l.getD p 0 : Nat) : Int) ((k.getD j 0 : Nat) : Int) = ((l.getD p 0 ||| k.getD j 0 : Nat) : Int)) := fun j hj => HO.out p j hlt hj
   have HMp : Hid (∀ j,j < m → ((k.take (j + 1)).map fun y => l.getD p 0 ||| y) = ((k.take j).map fun y => l.getD p 0 ||| y) ++ [l.getD p 0 ||| k.getD j 0]) := fun j hj => HM.out _ j hj
   clear hidA HCA HN HW HO HM HL HLT
   generalize l.getD p 0 = x at *
   generalize hU : uniL (l.take p) k = U at *
   clear hU
   go_wp2
   clear hc hx
   go_loopw [6,24] (fun v i w3 => ∃ j : Nat,j ≤ m ∧ i = .int .i64 (j : Int) ∧ Hid (w3.ownsRow w.heap.size 55 1 v (U ++ (k.take j).map fun y => x ||| y).length ((iU (U ++ (k.take j).map fun y => x ||| y)).map (Value.int .u64))) ∧ Hid (Below w.heap.size w w3)) (fun _ i _ => m - (intOf i).toNat)
   case atStart => exact ⟨0,Nat.zero_le _,rfl,by show World.ownsRow _ _ _ _ _ _ _; simpa using HV.out,HB⟩
   case round =>
    clear HV HB
    obtain ⟨j,hj,rfl,HV,HB⟩ := hrel
    by_cases hltj : j < m
    ·have hc := HCB.out j hltj _ HB.out
     have hx := fun w' => hidB j w' hltj
     have hor := HOp.out j hltj
     have HMj : Hid _ := HMp.out j hltj
     have hbd := HWp.out j x (by omega)
     obtain ⟨va,vc,rfl⟩ := q1G HV.out
     clear HWp HOp HMp HCB hidB HNp
     generalize k.getD j 0 = y at *
     generalize hR : (U ++ (k.take j).map fun y => x ||| y) = R at *
     have HRE : Hid (U ++ (k.take (j + 1)).map (fun y => x ||| y) = R ++ [x ||| y]) := by show _ = _; rw [HMj.out,← List.append_assoc,hR]
     clear HMj hR
     generalize x ||| y = z at *
     have HOA : Hid ((wr.alloc (.cells #[.int .u64 (z : Int)] 55)).ownsRow w.heap.size 55 1 (.slice va R.length vc) R.length ((iU R).map (Value.int .u64))) := World.ownsRow.alloc HV.out _
     have HCA : Hid ((wr.alloc (.cells #[.int .u64 (z : Int)] 55)).cell? ⟨wr.heap.size,0,none⟩ = some (.int .u64 (z : Int))) := qb (MapKept.heap_alloc wr _).1 0
     have HWA : Hid (Below w.heap.size w (wr.alloc (.cells #[.int .u64 (z : Int)] 55))) := HB.out.alloc HB.out.size _
     have hszA : w.heap.size ≤ (wr.alloc (.cells #[.int .u64 (z : Int)] 55)).heap.size := HWA.out.size
     have HGE : Hid (∀ q,(Value.slice va R.length vc).ownBlock = some q → w.heap.size ≤ q) := q2z HV.out
     clear HV HB
     go_wp2_with (at_builtin; refine q4G rfl _ _ rfl w.heap.size _ R.length (iU R) rfl HOA.out wr.heap.size (z : Int) rfl HCA.out (by omega) hszA ?_)
     intro v7 w7 hown7 hgr7
     have HO7 : Hid (w7.ownsRow w.heap.size 55 1 v7 (R.length + 1) ((iU R ++ [(z : Int)]).map (Value.int .u64))) := by show World.ownsRow _ _ _ _ _ _ _; simpa using hown7
     have HW7 : Hid (Below w.heap.size w w7) := HWA.out.grown hgr7 hszA (fun q e => HGE.out q e)
     clear hown7 hgr7 HOA HCA HWA hszA HGE
     go_wp2
     go_roundw
     case rel =>
      refine ⟨j + 1,by omega,by go_num,?_,HW7⟩
      show World.ownsRow _ _ _ _ _ _ _
      rw [HRE.out,List.length_append,q8k]
      exact HO7.out
     case measure => simp [intOf]; omega
    ·obtain rfl : j = m := by omega
     clear HWp HOp HMp HCB hidB
     go_wp2
     go_roundw
     case rel =>
      refine ⟨p + 1,by omega,by go_num,?_,HB⟩
      show World.ownsRow _ _ _ _ _ _ _
      rw [HNp.out]
      exact HV.out
     case measure => simp [intOf]; omega
  ·obtain rfl : p = n := by omega
   have HV2 : Hid _ := HV.out
   rw [HLT.out] at HV2
   obtain ⟨q,C,rfl,hle⟩ := HL.out wr _ HV2.out
   clear HV HV2 HN HM HW HCA HCB HO HL HLT hidA hidB
   generalize leastL (uniL l k) = r at *
   generalize (uniL l k).length = N at *
   go_wp2_with fail
   refine hle.mono ?_
   rintro e w2 ⟨q2,C2,rfl,hU2,hb2,hf2⟩
   have HU : Hid _ := hU2
   have HB2 : Hid (Below w.heap.size w w2) := qe HB.out hb2
   have HFS : Hid (∀ k,k < r.length → w.heap.size ≤ (adOf q2 k).block) := fun k hk => Nat.le_trans HB.out.size (hf2 k hk)
   clear hU2 hb2 hle hf2
   go_wp2
   go_ret2
   exact ⟨q2,C2,rfl,HU.out,HB2.out,HFS.out⟩
theorem qbA (a : Option Addr) (n c : Nat) (b : Option Addr) (m d : Nat) (w : World) (hn1 : n ≤ 2000) (hm1 : m ≤ 2000) (hn : 1024 < n * m) :
  Calls Tryz.prog 150 #[.slice a n c,.slice b m d] w (LE 9 [] w) := by
 have hmany := q4N n m w (by omega) (by omega)
 rw [decide_eq_true hn] at hmany
 clear hn
 go_enter Tryz.func150,Tryz.ntmps150
 go_wp2_with fail
 refine hmany.mono ?_
 rintro e w0 ⟨rfl,hw0⟩
 obtain rfl : w = w0 := hw0.symm
 clear hmany
 go_wp2
 go_ret2
 exact ⟨none,0,rfl,q5H,Below.refl _ _⟩
def Tab64 (w : World) : Prop := ∀ j,j < 64 → w.cell? ⟨1,j,none⟩ = some (.int .u8 ((Lib.deBruijn64tab.getD j 0 : Nat) : Int))
theorem Tab64.up {w w' : World} (h : Tab64 w) (hb : Below w.heap.size w w') : Tab64 w' := fun j hj => qn (h j hj) hb
theorem qaN (x k idx : Nat) (w : World) (hx0 : ((x : Int) == 0) = false)
  (key : IntKind.u64.wrap (bits BinOp.and IntKind.u64 (x : Int) (IntKind.u64.wrap (-(x : Int))) * 285870213051353865) / 288230376151711744 = (idx : Int))
  (hi : idx < 64) (hk : k < 64) (hcell : w.cell? ⟨1,idx,none⟩ = some (.int .u8 (k : Int))) :
  Calls Tryz.prog 166 #[.int .u64 (x : Int)] w fun e w' => e = .returned (.int .i64 (k : Int)) ∧ w' = w := by
 go_enter Tryz.func166,Tryz.ntmps166
 go_wp2_with (simp only [key])
 go_ret
 exact ⟨rfl,rfl⟩
theorem qgS (x a : Nat) (hx : x < 18446744073709551616) (hx0 : x ≠ 0) (hlow : x &&& (18446744073709551616 - x) = a) :
  IntKind.u64.wrap (bits BinOp.and IntKind.u64 (x : Int) (IntKind.u64.wrap (-(x : Int))) * 285870213051353865) / 288230376151711744 = ((a * 285870213051353865 % 18446744073709551616 / 288230376151711744 : Nat) : Int) := by
 have e1 : IntKind.u64.wrap (-(x : Int)) = ((18446744073709551616 - x : Nat) : Int) := by rw [IntKind.wrap_u64]; omega
 rw [e1,u64_and_nat x _ hx (by omega),hlow,IntKind.wrap_u64]
 omega
theorem qbX (x : Nat) (hx : x < 2 ^ 64) (hx0 : x ≠ 0) (w : World) (hT : Tab64 w) :
  Calls Tryz.prog 166 #[.int .u64 (x : Int)] w fun e w' => e = .returned (.int .i64 ((Lib.ctz 64 x : Nat) : Int)) ∧ w' = w := by
 obtain ⟨hlow,hk⟩ := Lib.lowest_bit 64 x hx0 hx
 obtain ⟨hi,htab⟩ := Lib.deBruijn64_at _ hk
 have hcell := hT _ hi
 rw [htab] at hcell
 exact qaN x _ _ w (by simp; omega) (qgS x _ hx hx0 hlow) hi hk hcell
theorem qah : (Tryz.prog.info? 3).map (fun i => (i.zero,i.size,i.bytes)) = some (some (.int .i64 0),1,8) := by kernel_rfl
theorem qaI : (Tryz.prog.info? 3).map (·.size) = some 1 := by kernel_rfl
theorem q9n {w : World} {ops : Array Oper} {rest : List Oper} {o : Oper} {a : Act} {Q : Exit → Act → World → Prop} (hgd : o.guard = none) (s x : Operand)
  (ho : o.op = .call { callee := .builtin .append,args := #[s,x],argTypes := #[29,29] }) (base : Nat)
  (v : Value) (n : Nat) (zs : List Int) (hs : a.eval s = v) (hown : w.ownsRow base 3 1 v n (zs.map (Value.int .i64))) (g' : Nat) (z : Int) (hx : a.eval x = .slice (some ⟨g',0,none⟩) 1 1) (hc : w.cell? ⟨g',0,none⟩ = some (.int .i64 z))
  (hn : n + 1 ≤ 2000000) (hbase : base ≤ w.heap.size)
  (h : ∀ v' w',w'.ownsRow base 3 1 v' (n + 1) ((zs ++ [z]).map (Value.int .i64)) → w.grownBy w' v.ownBlock → wpList Tryz.prog ops Q rest (a.put o.dst v') w') : wpList Tryz.prog ops Q (o :: rest) a w := by
 obtain ⟨i,hi,hz0,hz1,hz2⟩ := info_parts qah
 refine wpList_append_own w hgd s x 29 ho base 3 i _ 1 8 Tryz.underlying29 hi hz0 hz1 hz2 rfl (by decide) v n _ hs hown ⟨g',0,none⟩ 1 1 [.int .i64 z] hx rfl ?_ (fun u hu => by simp at hu; subst hu; rfl) (by unfold maxLen; omega) (by omega) hbase ?_
 ·intro j u hj
  match j with
  | 0 => simp at hj; rw [← hj,qi]; exact hc
  | j + 1 => simp at hj
 ·intro v' w' h1 h2 _
  exact h v' w' (by rw [List.map_append]; exact h1) h2
abbrev ISl (w : World) (a : Option Addr) (len cap : Nat) (l : List Nat) : Prop := IntSl Tryz.prog 29 .i64 w a len cap (iU l)
theorem qg4 {w : World} {base n : Nat} {v : Value} {l : List Nat} (h : w.ownsRow base 3 1 v n ((iU l).map (Value.int .i64))) : ∃ a cap,v = .slice a n cap ∧ ISl w a n cap l := by
 obtain ⟨hl,h⟩ := h
 simp at hl
 rcases h with ⟨rfl,rfl⟩ | ⟨g,cap,cur,rfl,hg,hcell,hnc,hcm,hsz,htk⟩
 ·have : l = [] := List.eq_nil_of_length_eq_zero hl
  subst this
  exact ⟨none,0,rfl,⟨rfl,Nat.le_refl _,Nat.zero_le _,fun m k w hk hm => absurd hk (by omega),fun k hk => absurd hk (by omega),fun k hk => absurd hk (by omega),fun _ => rfl⟩⟩
 ·have had : ∀ k,adOf (some ⟨g,0,none⟩) k = ⟨g,k,none⟩ := fun k => by simp [adOf,qi]
  have hlt : g < w.heap.size := (Array.getElem?_eq_some_iff.1 hcell).1
  refine ⟨some ⟨g,0,none⟩,cap,rfl,⟨by simpa using hl,hnc,hcm,fun m k w hk hm => q1j Tryz.underlying29 qaI (by simp) k w hk,fun k hk => ?_,fun k hk => by rw [had]; exact hlt,by simp⟩⟩
  rw [had]
  have hk2 : (cur.toList.take (n * 1))[k]? = some (.int .i64 ((iU l).getD k 0)) := by
   rw [htk]; simp [List.getD_eq_getElem?_getD,List.getElem?_eq_getElem (show k < l.length by omega)]
  rw [List.getElem?_take,if_pos (by omega)] at hk2
  simp [World.cell?,hcell]
  simpa using hk2
theorem q44 (a : Option Addr) (n c : Nat) (l : List Nat) (b : Option Addr) (m d : Nat) (k : List Nat) (w : World) (hA : USl w a n c l) (hB : USl w b m d k) :
  Calls Tryz.prog 17 #[.slice a n c,.slice b m d] w (BR (decide (l = k)) w) := by
 have he := q6J a n c _ b m d _ w hA hB
 rw [qgj] at he
 clear hA hB
 generalize decide (l = k) = r at *
 go_enter Tryz.func17,Tryz.ntmps17
 go_wp2_with fail
 refine he.mono ?_
 rintro e w1 ⟨rfl,hw⟩
 have HB : Hid (Below w.heap.size w w1) := qa5 hw
 clear he hw
 go_wp2
 go_ret
 exact ⟨rfl,HB.out⟩
theorem q72 (a : Option Addr) (n c : Nat) (l : List Nat) (w : World) (hA : USl w a n c l) (sL : Sm l) (hn : n ≤ 1000000) :
  Calls Tryz.prog 16 #[.slice a n c] w (BR (decide (l = leastL l)) w) := by
 have hle := q7U a n c l w hA sL hn
 have HS : Hid (∀ (b : Option Addr) (d : Nat) (w1 : World),USl w1 b (leastL l).length d (leastL l) → Below w.heap.size w w1 → Calls Tryz.prog 17 #[.slice a n c,.slice b (leastL l).length d] w1 (BR (decide (l = leastL l)) w1)) := fun b d w1 hU hb => q44 a n c l b _ d _ w1 (hA.up hb) hU
 clear hA sL
 generalize decide (l = leastL l) = r at *
 go_enter Tryz.func16,Tryz.ntmps16
 go_wp2_with fail
 refine hle.mono ?_
 rintro e w1 ⟨q,C,rfl,hU,hb⟩
 have hs := HS.out q C w1 hU hb
 have HB : Hid _ := hb
 clear hle hU hb HS
 go_wp2_with fail
 refine hs.mono ?_
 rintro e w2 ⟨rfl,hb2⟩
 have HB2 : Hid (Below w.heap.size w w2) := qe HB.out hb2
 clear hs hb2 HB
 go_wp2
 go_ret
 exact ⟨rfl,HB2.out⟩
theorem q1N (w : World) : Calls Tryz.prog 124 #[] w (LRN [0] w) := by
 have HU : Hid _ := q3l [0] w (by decide)
 have HB : Hid _ := qd w (.cells ((iU [0]).map (Value.int .u64)).toArray 55)
 go_enter Tryz.func124,Tryz.ntmps124
 go_wp2
 go_ret
 exact ⟨_,_,rfl,HU.out,HB.out,fun k _ => by simp [adOf,qi]⟩
def pgV (p : Nat) : Value := .pointer (some ⟨p,0,none⟩)
structure US (w : World) (F : Nat → Prop) (a : Option Addr) (n c : Nat) (l : List Nat) : Prop where
 sl : USl w a n c l
 nf : ∀ k,k < n → ¬ F (adOf a k).block
theorem US.fr {w w' : World} {F F' : Nat → Prop} {a : Option Addr} {n c : Nat} {l : List Nat} (h : US w F a n c l) (fr : Fr w w' F F') : US w' F' a n c l := ⟨fr.intSl h.sl h.nf,fun k hk => fr.out (h.nf k hk) (h.sl.blk k hk)⟩
theorem US.up {w w' : World} {F : Nat → Prop} {a : Option Addr} {n c : Nat} {l : List Nat} (h : US w F a n c l) (hb : Below w.heap.size w w') : US w' F a n c l := ⟨h.sl.up hb,h.nf⟩
theorem qdH (w : World) (F : Nat → Prop) : US w F none 0 0 [] := ⟨q5H,fun k hk => absurd hk (by omega)⟩
def thrownP : List PanicEntry := [{ v := .iface 185 (.int .i64 9),recovered := false }]
def TwoR (r : Option (List Nat)) (w : World) (e : Ending) (w' : World) : Prop := Below w.heap.size w w' ∧ ((∃ L q d,r = some L ∧ e = .returned (.slice q L.length d) ∧ USl w' q L.length d L ∧ ∀ k,k < L.length → w.heap.size ≤ (adOf q k).block) ∨ (r = none ∧ e = .panicked thrownP))
theorem q4R (a : Option Addr) (n c : Nat) (w : World) : Calls Tryz.prog 149 #[.slice a n c,.int .i64 0] w fun e w' => e = .returned (.slice a n c) ∧ w' = w := by
 go_enter Tryz.func149,Tryz.ntmps149
 go_wp2
 go_ret
 exact ⟨rfl,rfl⟩
theorem q4Q (a : Option Addr) (n c : Nat) (w : World) : Calls Tryz.prog 149 #[.slice a n c,.int .i64 9] w fun e w' => e = .panicked thrownP ∧ w' = w := by
 go_enter Tryz.func149,Tryz.ntmps149
 go_wp2
 exact ⟨rfl,rfl,rfl⟩
theorem q3W (a : Option Addr) (n c : Nat) (l : List Nat) (b : Option Addr) (m d : Nat) (k : List Nat) (w : World) (hA : USl w a n c l) (hB : USl w b m d k) (sL : Sm l) (sK : Sm k) (hn : n ≤ 2000) (hm : m ≤ 2000) :
  Calls Tryz.prog 125 #[.slice a n c,.slice b m d] w (TwoR (andM l k) w) := by
 have hl := hA.len
 have hk := hB.len
 by_cases h : n * m ≤ 1024
 ·have hs : andM l k = some (leastL (uniL l k)) := by unfold andM; rw [if_pos (by rw [← hl,← hk]; exact h)]
  have jj := qa6 a n c l b m d k w hA hB sL sK h hn hm
  rw [hs]
  clear hs hA hB hl hk h
  generalize leastL (uniL l k) = r at *
  go_enter Tryz.func125,Tryz.ntmps125
  go_wp2_with fail
  refine jj.mono ?_
  rintro e w1 ⟨q,C,rfl,hU,hb,hf⟩
  have HU : Hid _ := hU
  have HB : Hid _ := hb
  have HFS : Hid _ := hf
  clear jj hU hb hf
  go_wp2_with fail
  refine (q4R _ _ _ _).mono ?_
  rintro e w2 ⟨rfl,rfl⟩
  go_wp2
  go_ret
  exact ⟨HB.out,Or.inl ⟨r,q,C,rfl,rfl,HU.out,HFS.out⟩⟩
 ·have hs : andM l k = none := by unfold andM; rw [if_neg (by rw [← hl,← hk]; exact h)]
  have jj := qbA a n c b m d w hn hm (by omega)
  rw [hs]
  clear hs hA hB hl hk h
  go_enter Tryz.func125,Tryz.ntmps125
  go_wp2_with fail
  refine jj.mono ?_
  rintro e w1 ⟨q,C,rfl,hU,hb⟩
  have HB : Hid _ := hb
  clear jj hU hb
  go_wp2_with fail
  refine (q4Q _ _ _ _).mono ?_
  rintro e w2 ⟨rfl,rfl⟩
  exact ⟨rfl,HB.out,Or.inr ⟨rfl,rfl⟩⟩
theorem q3k (a : Option Addr) (n c : Nat) (l : List Nat) (b : Option Addr) (m d : Nat) (k : List Nat) (w : World) (hA : USl w a n c l) (hB : USl w b m d k) (sL : Sm l) (sK : Sm k) (hn : n ≤ 2000) (hm : m ≤ 2000) :
  Calls Tryz.prog 126 #[.slice a n c,.slice b m d] w (TwoR (orM l k) w) := by
 have hl := hA.len
 have hk := hB.len
 by_cases h : n + m ≤ 1024
 ·have hs : orM l k = some (leastL (l ++ k)) := by unfold orM; rw [if_pos (by rw [← hl,← hk]; exact h)]
  have jj := qbS a n c l b m d k w hA hB sL sK h
  rw [hs]
  clear hs hA hB hl hk h
  generalize leastL (l ++ k) = r at *
  go_enter Tryz.func126,Tryz.ntmps126
  go_wp2_with fail
  refine jj.mono ?_
  rintro e w1 ⟨q,C,rfl,hU,hb,hf⟩
  have HU : Hid _ := hU
  have HB : Hid _ := hb
  have HFS : Hid _ := hf
  clear jj hU hb hf
  go_wp2_with fail
  refine (q4R _ _ _ _).mono ?_
  rintro e w2 ⟨rfl,rfl⟩
  go_wp2
  go_ret
  exact ⟨HB.out,Or.inl ⟨r,q,C,rfl,rfl,HU.out,HFS.out⟩⟩
 ·have hs : orM l k = none := by unfold orM; rw [if_neg (by rw [← hl,← hk]; exact h)]
  have jj := qcH a n c b m d w (by omega) (by omega) (by omega)
  rw [hs]
  clear hs hA hB hl hk h
  go_enter Tryz.func126,Tryz.ntmps126
  go_wp2_with fail
  refine jj.mono ?_
  rintro e w1 ⟨q,C,rfl,hU,hb⟩
  have HB : Hid _ := hb
  clear jj hU hb
  go_wp2_with fail
  refine (q4Q _ _ _ _).mono ?_
  rintro e w2 ⟨rfl,rfl⟩
  exact ⟨rfl,HB.out,Or.inr ⟨rfl,rfl⟩⟩
def NewL (l : List Nat) (w : World) (e : Ending) (w' : World) : Prop := ∃ q C,e = .returned (.slice q l.length C) ∧ USl w' q l.length C l ∧ Below w.heap.size w w' ∧ ∀ k,k < l.length → w.heap.size ≤ (adOf q k).block
theorem q3u (w w' : World) (h : Below w.heap.size w w') : NewL [] w (.returned (.slice none 0 0)) w' := ⟨none,0,rfl,q5H,h,fun k hk => absurd hk (by simp)⟩
theorem q43 (b : Bool) (w : World) : Calls Tryz.prog 174 #[.bool b] w (NewL (yesM b) w) := by
 cases b with
 | true =>
  have jj := q1N w
  go_enter Tryz.func174,Tryz.ntmps174
  go_wp2_with fail
  refine jj.mono ?_
  rintro e w1 ⟨q,C,rfl,hU,hb,hf⟩
  have HU : Hid (NewL (yesM true) w (.returned (.slice q [0].length C)) w1) := ⟨q,C,rfl,hU,hb,hf⟩
  clear jj hU hb hf
  go_wp2
  go_ret
  exact HU.out
 | false =>
  go_enter Tryz.func174,Tryz.ntmps174
  go_wp2
  go_ret
  exact q3u w w (Below.refl _ _)
theorem qer : ∀ x : Fin 256,∀ q : Fin 8,(bits BinOp.and IntKind.u8 ((x.val : Nat) : Int) ((2 ^ q.val : Nat) : Int) != 0) = x.val.testBit q.val := by decide +kernel
def rdV (p x bn bl : Nat) : Value := .agg #[.pointer (some ⟨p,0,none⟩),.int .u8 (x : Int),.map (some bn),.map (some bl)]
def rdO (p x bn bl : Nat) : Obj := .cells #[.pointer (some ⟨p,0,none⟩),.int .u8 (x : Int),.map (some bn),.map (some bl)] 191 (0,0)
theorem q4P (p x bn bl q : Nat) (hx : x < 256) (hq : q ≤ 7) (w : World) : Calls Tryz.prog 175 #[rdV p x bn bl,.int .u8 (q : Int)] w fun e w' => e = .returned (.bool (x.testBit q)) ∧ Below w.heap.size w w' := by
 have HB := qd w (rdO p x bn bl)
 unfold rdV
 unfold rdO at HB
 have : q = 0 ∨ q = 1 ∨ q = 2 ∨ q = 3 ∨ q = 4 ∨ q = 5 ∨ q = 6 ∨ q = 7 := by omega
 have hh := qer ⟨x,hx⟩ ⟨q,by omega⟩
 dsimp only at hh
 rcases this with rfl | rfl | rfl | rfl | rfl | rfl | rfl | rfl <;>
 ·have HH : Hid _ := hh
  clear hh
  go_enter Tryz.func175,Tryz.ntmps175
  go_wp2
  go_ret
  exact ⟨congrArg Ending.returned (congrArg Value.bool HH.out),HB⟩
end Go.Proofs.YtailhklbmenaoaaGreatDoor
