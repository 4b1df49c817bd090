/- Texts of the proof, put together: what it uses. -/
import Derived.Deep.RegionLaw
import Derived.Deep.DeepCutAuto
import Derived.Test.YtailhklbmenaoaaGreatDoorZ13
import Derived.Test.YtailhklbmenaoaaGreatDoorZ15
set_option maxRecDepth 100000
set_option maxHeartbeats 16000000
namespace Go.Proofs.YtailhklbmenaoaaGreatDoor
open Go.RowKit Go.Maps
def itO (x : It) : Obj := .cells #[.int .u8 (x.op : Int),.int .u8 (x.p : Int),.int .i64 x.a,.int .i64 x.b] 162 (0,0)
theorem qcL {w : World} {o : Oper} {a : Act} {K : Act → World → Prop} {Q : Exit → Act → World → Prop} (s x : Operand)
  (ho : o.op = .call { callee := .builtin .append,args := #[s,x],argTypes := #[122,122] })
  (v : Value) (n : Nat) (items : List It) (y : It) (g : Nat) (hs : a.eval s = v) (hx : a.eval x = .slice (some ⟨g,0,none⟩) 1 1) (hown : w.ownsRow 0 162 4 v n (encI items))
  (hB : w.heap[g]? = some (itO y)) (hn : n ≤ 100000000)
  (h : ∀ v' w',w'.ownsRow 0 162 4 v' (n + 1) (encI (items ++ [y])) → w.grownBy w' v.ownBlock → (v'.ownBlock = v.ownBlock ∨ v'.ownBlock = some w.heap.size) → K (a.put o.dst v') w') : o.wp Tryz.prog a w K Q := by
 obtain ⟨i,hi,hz0,hz1,hz2⟩ := info_parts q9y
 obtain ⟨v',w',hr,h2,h3,_,h5⟩ := run_append_own_at (P := Tryz.prog) w 0 122 o.type 162 i _ 4 24 Tryz.underlying122 hi hz0 hz1 hz2 rfl (by decide) v n _ hown ⟨g,0,none⟩ 1 1 (encI [y]) rfl (fun j u hj => by
  rw [qi,Nat.zero_add,qb hB]
  simpa [encI] using hj) (qaY y) (by unfold maxLen; omega) (by omega) (Nat.zero_le _)
 unfold Oper.wp execOp
 simp only [ho,resolve,invoke,builtin,Sem.run_bind,Sem.run_pure,Result.andThen_ok,List.map_toArray,List.map_cons,List.map_nil,hs,hx,hr]
 exact h v' w' (by rw [q5U]; exact h2) h3 h5
theorem q4U {w : World} {ops : Array Oper} {o : Oper} {a : Act} {K : Act → World → Prop} {Q : Exit → Act → World → Prop} {E : Prop} (hw : Region.wanted o (yielded ops a.tmps) = true) (s x : Operand)
  (ho : o.op = .call { callee := .builtin .append,args := #[s,x],argTypes := #[122,122] })
  (v : Value) (n : Nat) (items : List It) (y : It) (g : Nat) (hs : a.eval s = v) (hx : a.eval x = .slice (some ⟨g,0,none⟩) 1 1) (hown : w.ownsRow 0 162 4 v n (encI items))
  (hB : w.heap[g]? = some (itO y)) (hn : n ≤ 100000000)
  (h : ∀ v' w',w'.ownsRow 0 162 4 v' (n + 1) (encI (items ++ [y])) → w.grownBy w' v.ownBlock → (v'.ownBlock = v.ownBlock ∨ v'.ownBlock = some w.heap.size) → K (a.put o.dst v') w') :
  if Region.wanted o (yielded ops a.tmps) = true then Oper.wp Tryz.prog o a w K Q else E := by
 rw [if_pos hw]
 exact qcL s x ho v n items y g hs hx hown hB hn h
theorem qK {w : World} {base e size n : Nat} {v : Value} {xs : List Value} (h : w.ownsRow base e size v n xs) : ∃ a cap,v = .slice a n cap := by
 rcases h.2 with ⟨rfl,rfl⟩ | ⟨g,cap,cur,rfl,_⟩
 ·exact ⟨none,0,rfl⟩
 ·exact ⟨_,cap,rfl⟩
theorem q4b {w : World} {base n g : Nat} {v : Value} {xs : List Value} {o : Obj} (h : w.ownsRow base 162 4 v n xs) (hg : w.heap[g]? = some o) (ho : ∀ cs,o ≠ .cells cs 162 (0,0)) : v.ownBlock ≠ some g := by
 rcases h.2 with ⟨rfl,_⟩ | ⟨g',cap,cur,rfl,_,hc,_⟩
 ·intro e; cases e
 ·intro e
  injection e with e
  dsimp only at e
  subst e
  rw [hg] at hc
  injection hc with hc
  exact ho _ hc
theorem q97 {items : List It} {x : It} (hx : x ∉ items) (y : It) : (if y = x then some items.length else posI items y) = posI (items ++ [x]) y := by
 unfold posI
 rw [List.findIdx?_append]
 by_cases e : y = x
 ·subst e
  rw [if_pos rfl,show items.findIdx? (· = y) = none from q1A.2 hx]
  simp
 ·rw [if_neg e]
  have : ¬ x = y := fun h => e h.symm
  simp [this]
structure Mid (w w6 : World) (t : Nat) (a6 : Option Addr) (n c6 mb : Nat) (items : List It) (x : It) (a : Option Addr) (cap : Nat) : Prop where
 blk : w6.heap[t]? = some (.cells #[tbV t,.slice a6 (n + 1) c6,.map (some mb)] 205 (0,0))
 row : w6.ownsRow 0 162 4 (.slice a6 (n + 1) c6) (n + 1) (encI (items ++ [x]))
 num : NumOf w6 mb n (posI items)
 box : w6.heap[w.heap.size]? = some (itO x)
 os : w6.os = w.os
 tape : w6.tape = w.tape
 output : w6.output = w.output
 size : w.heap.size < w6.heap.size
 keep : ∀ k,k < w.heap.size → k ≠ t → (Value.slice a n cap).ownBlock ≠ some k → w6.heap[k]? = w.heap[k]?
 loc : ∀ k,(Value.slice a6 (n + 1) c6).ownBlock = some k → (Value.slice a n cap).ownBlock = some k ∨ w.heap.size ≤ k
theorem qgF {w w5 : World} {t n cap mb : Nat} {a : Option Addr} {items : List It} (h : TabR w t a n cap mb items) (x : It)
  (hg : ((w.alloc (itO x)).alloc (itO x)).drew.grownBy w5 (Value.slice a n cap).ownBlock) (a5 : Option Addr) (c5 : Nat) (ho : w5.ownsRow 0 162 4 (.slice a5 (n + 1) c5) (n + 1) (encI (items ++ [x])))
  (hl : (Value.slice a5 (n + 1) c5).ownBlock = (Value.slice a n cap).ownBlock ∨ (Value.slice a5 (n + 1) c5).ownBlock = some ((w.alloc (itO x)).alloc (itO x)).drew.heap.size) :
  w5.heap[t]? = some (.cells #[tbV t,.slice a n cap,.map (some mb)] 205 (0,0)) ∧ Mid w (w5.setCell ⟨t,1,none⟩ (.slice a5 (n + 1) c5)) t a5 n c5 mb items x a cap := by
 have hb1 := qd w (itO x)
 have hb2 := qe hb1 (qd (w.alloc (itO x)) (itO x))
 have htl := (Array.getElem?_eq_some_iff.1 h.blk).1
 have hne : (Value.slice a n cap).ownBlock ≠ some t := q4b h.row h.blk (fun cs e => by injection e with _ e _; exact absurd e (by decide))
 obtain ⟨es,cl,hmap⟩ := h.num.isMap
 have hnm : (Value.slice a n cap).ownBlock ≠ some mb := q4b h.row hmap (fun cs e => by cases e)
 have hmt : mb ≠ t := fun e => by rw [e,h.blk] at hmap; cases hmap
 have hz2 : ((w.alloc (itO x)).alloc (itO x)).drew.heap.size = w.heap.size + 2 := by simp
 have hlb : ∀ k,(Value.slice a n cap).ownBlock = some k → k < w.heap.size := qR h.row
 have st : ∀ k,k < w.heap.size → (Value.slice a n cap).ownBlock ≠ some k → w5.heap[k]? = w.heap[k]? := fun k hk hn => (hg.block k (by omega) (fun e => hn e.symm)).trans (hb2.block k hk)
 have h5 : w5.heap[t]? = some (.cells #[tbV t,.slice a n cap,.map (some mb)] 205 (0,0)) := (st t htl hne).trans h.blk
 have hs5 := hg.size
 refine ⟨h5,⟨?_,?_,?_,?_,hg.os,hg.tape,hg.output,?_,fun k hk hkt hkn => ?_,fun k hk => ?_⟩⟩
 ·rw [heap_setCell_same w5 t 1 _ _ _ h5]; rfl
 ·refine qs ho fun k hk => Below.heap_setCell _ _ _ _ ?_
  dsimp only
  rintro rfl
  rcases hl with e | e
  ·rw [e] at hk; exact hne hk
  ·rw [e] at hk; injection hk with hk; omega
 ·exact h.num.far ((Below.heap_setCell _ _ _ _ (by dsimp only; exact hmt)).trans (st mb h.num.lt hnm))
 ·refine (Below.heap_setCell _ _ _ _ (by dsimp only; omega)).trans ((hg.block _ (by omega) (fun e => ?_)).trans ?_)
  ·have := hlb _ e.symm; omega
  ·exact ((qd (w.alloc (itO x)) (itO x)).block _ (by simp)).trans (MapKept.heap_alloc w (itO x)).1
 ·simp; omega
 ·exact (Below.heap_setCell _ _ _ _ (by dsimp only; exact hkt)).trans (st k hk hkn)
 ·rcases hl with e | e
  ·rw [e] at hk; exact Or.inl hk
  ·rw [e] at hk; injection hk with hk; right; omega
theorem qfi {w w6 w7 : World} {F : Nat → Prop} {t cap mb : Nat} {a : Option Addr} {items : List It} (h : TabI w F t items) (hF : ∀ k,F k ↔ (k = t ∨ k = mb ∨ (Value.slice a items.length cap).ownBlock = some k)) {x : It} (hx : ItOk x) (hn : x ∉ items) (hl : items.length < 4096)
  {a6 : Option Addr} {c6 : Nat} (m : Mid w w6 t a6 items.length c6 mb items x a cap) (hn7 : NumOf w7 mb (items.length + 1) (fun y => if y = x then some items.length else posI items y)) (hg : w6.drew.grownBy w7 (some mb)) (hmw : mb < w.heap.size) :
  ∃ F',TabI w7 F' t (items ++ [x]) ∧ Fr w w7 F F' := by
 have hsz := m.size
 have hs7 := hg.size
 have hs7' : w6.heap.size ≤ w7.heap.size := hs7
 obtain ⟨es,cl,hmap⟩ := m.num.isMap
 have hmt : t ≠ mb := fun e => by rw [← e,m.blk] at hmap; cases hmap
 have hnm : (Value.slice a6 (items.length + 1) c6).ownBlock ≠ some mb := q4b m.row hmap (fun cs e => by cases e)
 have htl : t < w6.heap.size := (Array.getElem?_eq_some_iff.1 m.blk).1
 have st : ∀ k,k < w6.heap.size → k ≠ mb → w7.heap[k]? = w6.heap[k]? := fun k hk hne => hg.block k hk (fun e => hne (by injection e))
 refine ⟨fun k => k = t ∨ k = mb ∨ (Value.slice a6 (items.length + 1) c6).ownBlock = some k,⟨?_,?_,?_,.slice a6 (items.length + 1) c6,mb,(st t htl hmt).trans m.blk,?_,?_,fun k => Iff.rfl⟩,?_⟩
 ·exact List.nodup_append.2 ⟨h.nd,by simp,fun a ha b hb => by simp at hb; subst hb; exact fun e => hn (e ▸ ha)⟩
 ·simp; omega
 ·intro y hy
  rcases List.mem_append.1 hy with hy | hy
  ·exact h.ok y hy
  ·simp at hy; subst hy; exact hx
 ·rw [List.length_append]
  exact qs m.row fun k hk => st k (qR m.row k hk) (fun e => hnm (e ▸ hk))
 ·rw [List.length_append]
  exact hn7.alike fun y _ => q97 hn y
 ·refine ⟨hg.os.trans m.os,hg.tape.trans m.tape,hg.output.trans m.output,by omega,fun k hk hf => ?_,fun k hk => ?_⟩
  ·have hf' := fun e => hf ((hF k).2 e)
   exact (st k (by omega) (fun e => hf' (Or.inr (Or.inl e)))).trans (m.keep k hk (fun e => hf' (Or.inl e)) (fun e => hf' (Or.inr (Or.inr e))))
  ·rcases hk with rfl | rfl | hk
   ·exact Or.inl ((hF k).2 (Or.inl rfl))
   ·exact Or.inl ((hF k).2 (Or.inr (Or.inl rfl)))
   ·rcases m.loc k hk with e | e
    ·exact Or.inl ((hF k).2 (Or.inr (Or.inr e)))
    ·exact Or.inr e
theorem q9Y {w : World} {F : Nat → Prop} {t : Nat} {items : List It} (h : TabI w F t items) (x : It) (hx : ItOk x) (hn : x ∉ items) (hl : items.length < 4096) :
  Calls Tryz.prog 146 #[.pointer (some ⟨t,0,none⟩),itV x] w fun e w' => e = .returned (.int .i64 (items.length : Int)) ∧ ∃ F',TabI w' F' t (items ++ [x]) ∧ Fr w w' F F' := by
 obtain ⟨a,cap,mb,hr,hF⟩ := h.read
 have HR : Hid _ := hr
 have HF : Hid _ := hF
 have HI : Hid _ := h
 have HX : Hid _ := hx
 have HN : Hid _ := hn
 have hb1 := qd w (itO x)
 have hr1 := hr.up hb1
 have c1 := hr1.c1
 have c1b := (hr1.up (qd (w.alloc (itO x)) (itO x))).c1
 have hO : ((w.alloc (itO x)).alloc (itO x)).drew.ownsRow 0 162 4 (.slice a items.length cap) items.length (encI items) := World.ownsRow.alloc (World.ownsRow.alloc hr.row _) _
 have hB : ((w.alloc (itO x)).alloc (itO x)).drew.heap[w.heap.size + 1]? = some (itO x) := by
  have := (MapKept.heap_alloc (w.alloc (itO x)) (itO x)).1
  rw [show (w.alloc (itO x)).heap.size = w.heap.size + 1 by simp] at this
  exact this
 have hn4 : items.length ≤ 4096 := by omega
 have hmid := fun w5 hg a5 c5 ho hl => qgF (w5 := w5) hr x hg a5 c5 ho hl
 have HM : Hid _ := hmid
 clear h hr hr1 hF hx hn hb1 hmid
 obtain ⟨op,p,xa,xb⟩ := x
 unfold itO at hO hB HM c1 c1b
 dsimp only at hO hB HM c1 c1b
 unfold itV
 dsimp only
 generalize hL : items.length = L at *
 have HL : Hid (items.length = L) := hL
 clear hL
 go_enter Tryz.func146,Tryz.ntmps146
 go_upto_region 15 with fail
 go_region_law ((refine q4U rfl _ _ rfl (.slice a L cap) L items ⟨op,p,xa,xb⟩ (w.heap.size + 1) rfl rfl hO hB (by omega) ?_; intro v5 w5 hown5 hgr5 hloc5; obtain ⟨a5,k5,rfl⟩ := qK hown5; have m5 := HM.out w5 hgr5 a5 k5 hown5 hloc5; have c5 : w5.cell? ⟨t,1,none⟩ = some (.slice a L cap) := qb m5.1 1; have z5 : w5.frozen? ⟨t,1,none⟩ = false := frozen_of_row w5 _ 1 _ _ m5.1))
 all_goals
  have HM6 : Hid _ := m5.2
  clear hO hB c1 c1b c5 z5 m5 hown5 hgr5 hloc5
  generalize w5.setCell ⟨t,1,none⟩ (.slice a5 (L + 1) k5) = w6 at *
  have t2 : w6.cell? ⟨t,2,none⟩ = some (.map (some mb)) := qb HM6.out.blk 2
  have b0 : w6.cell? ⟨w.heap.size,0,none⟩ = some (.int .u8 (op : Int)) := qb HM6.out.box 0
  have b1 : w6.cell? ⟨w.heap.size,1,none⟩ = some (.int .u8 (p : Int)) := qb HM6.out.box 1
  have b2 : w6.cell? ⟨w.heap.size,2,none⟩ = some (.int .i64 xa) := qb HM6.out.box 2
  have b3 : w6.cell? ⟨w.heap.size,3,none⟩ = some (.int .i64 xb) := qb HM6.out.box 3
  obtain ⟨w7,hrun,hn7,hg7⟩ := (show NumOf w6.drew mb L (posI items) from HM6.out.num).put (by omega) (x := ⟨op,p,xa,xb⟩) HX.out (q1A.2 HN.out) L (by omega)
  unfold itV at hrun
  dsimp only at hrun
  have HN7 : Hid _ := hn7
  have HG7 : Hid _ := hg7
  clear hn7 hg7
  go_upto_region 15 with fail
  go_region
  all_goals
   clear hrun t2 b0 b1 b2 b3
   go_wp2
   go_ret
   have e := HL.out
   subst e
   exact ⟨rfl,qfi HI.out HF.out HX.out HN.out hl HM6.out HN7.out HG7.out HR.out.num.lt⟩
def FP (b mp : Nat) (vi vt : Value) (k : Nat) : Prop := k = b ∨ k = mp ∨ vi.ownBlock = some k ∨ vt.ownBlock = some k
def ptA (vi : Value) (mp : Nat) (vt : Value) (rest : List Value) : Array Value := (vi :: .map (some mp) :: vt :: rest).toArray
def PtT (T : TypeId) : Prop := T = 126 ∨ T = 128
structure PtR (w : World) (b : Nat) (T : TypeId) (rest : List Value) (vi : Value) (mp : Nat) (vt : Value) (items : List It) (texts : List ByteArray) (n : Nat) (f : It → Option Nat) : Prop where
 ty : PtT T
 blk : w.heap[b]? = some (.cells (ptA vi mp vt rest) T (0,0))
 ri : w.ownsRow 0 162 4 vi items.length (encI items)
 rt : w.ownsRow 0 9 1 vt texts.length (texts.map Value.string)
 num : NumOf w mp n f
theorem q2m {w : World} {base e size n g : Nat} {v : Value} {xs : List Value} {o : Obj} (h : w.ownsRow base e size v n xs) (hg : w.heap[g]? = some o) (ho : ∀ cs,o ≠ .cells cs e (0,0)) : v.ownBlock ≠ some g := by
 rcases h.2 with ⟨rfl,_⟩ | ⟨g',cap,cur,rfl,_,hc,_⟩
 ·intro e; cases e
 ·intro e
  injection e with e
  dsimp only at e
  subst e
  rw [hg] at hc
  injection hc with hc
  exact ho _ hc
theorem qdS {w : World} {base e size n g : Nat} {v : Value} {xs : List Value} (h : w.ownsRow base e size v n xs) (hg : v.ownBlock = some g) : ∃ cs,w.heap[g]? = some (.cells cs e (0,0)) := by
 rcases h.2 with ⟨rfl,_⟩ | ⟨g',cap,cur,rfl,_,hc,_⟩
 ·cases hg
 ·injection hg with hg
  dsimp only at hg
  subst hg
  exact ⟨_,hc⟩
theorem PtT.ne {T : TypeId} (h : PtT T) : T ≠ 162 ∧ T ≠ 9 ∧ T ≠ 3 := by
 rcases h with rfl | rfl <;> decide
section
variable {w : World} {b mp n : Nat} {T : TypeId} {rest : List Value} {vi vt : Value} {items : List It} {texts : List ByteArray} {f : It → Option Nat}
theorem PtR.ib (h : PtR w b T rest vi mp vt items texts n f) : vi.ownBlock ≠ some b := q2m h.ri h.blk fun cs e => by injection e with _ e _; exact h.ty.ne.1 e
theorem PtR.tb (h : PtR w b T rest vi mp vt items texts n f) : vt.ownBlock ≠ some b := q2m h.rt h.blk fun cs e => by injection e with _ e _; exact h.ty.ne.2.1 e
theorem PtR.im (h : PtR w b T rest vi mp vt items texts n f) : vi.ownBlock ≠ some mp := by
 obtain ⟨es,c,hm⟩ := h.num.isMap
 exact q2m h.ri hm fun cs e => by cases e
theorem PtR.tm (h : PtR w b T rest vi mp vt items texts n f) : vt.ownBlock ≠ some mp := by
 obtain ⟨es,c,hm⟩ := h.num.isMap
 exact q2m h.rt hm fun cs e => by cases e
theorem PtR.mb (h : PtR w b T rest vi mp vt items texts n f) : mp ≠ b := fun e => by
 obtain ⟨es,c,hm⟩ := h.num.isMap
 rw [e,h.blk] at hm; cases hm
theorem PtR.it (h : PtR w b T rest vi mp vt items texts n f) : ∀ k,vi.ownBlock = some k → vt.ownBlock ≠ some k := fun k hk => by
 obtain ⟨cs,hc⟩ := qdS h.ri hk
 exact q2m h.rt hc fun cs e => by injection e with _ e _; exact absurd e (by decide)
theorem PtR.bl (h : PtR w b T rest vi mp vt items texts n f) : b < w.heap.size := (Array.getElem?_eq_some_iff.1 h.blk).1
theorem PtR.lt (h : PtR w b T rest vi mp vt items texts n f) : ∀ k,FP b mp vi vt k → k < w.heap.size := fun k hk => by
 rcases hk with rfl | rfl | hk | hk
 ·exact h.bl
 ·exact h.num.lt
 ·exact qR h.ri k hk
 ·exact qR h.rt k hk
theorem PtR.far {w' : World} (h : PtR w b T rest vi mp vt items texts n f) (hb : ∀ k,FP b mp vi vt k → w'.heap[k]? = w.heap[k]?) : PtR w' b T rest vi mp vt items texts n f :=
 ⟨h.ty,(hb b (Or.inl rfl)).trans h.blk,qs h.ri fun k hk => hb k (Or.inr (Or.inr (Or.inl hk))),qs h.rt fun k hk => hb k (Or.inr (Or.inr (Or.inr hk))),h.num.far (hb mp (Or.inr (Or.inl rfl)))⟩
theorem PtR.up {w' : World} (h : PtR w b T rest vi mp vt items texts n f) (hb : Below w.heap.size w w') : PtR w' b T rest vi mp vt items texts n f := h.far fun k hk => hb.block k (h.lt k hk)
theorem PtR.c0 (h : PtR w b T rest vi mp vt items texts n f) : w.cell? ⟨b,0,none⟩ = some vi := qb h.blk 0
theorem PtR.c1 (h : PtR w b T rest vi mp vt items texts n f) : w.cell? ⟨b,1,none⟩ = some (.map (some mp)) := qb h.blk 1
theorem PtR.c2 (h : PtR w b T rest vi mp vt items texts n f) : w.cell? ⟨b,2,none⟩ = some vt := qb h.blk 2
theorem PtR.put {w' : World} {n' : Nat} {f' : It → Option Nat} (h : PtR w b T rest vi mp vt items texts n f) (hg : w.grownBy w' (some mp)) (hn : NumOf w' mp n' f') : PtR w' b T rest vi mp vt items texts n' f' ∧ Fr w w' (FP b mp vi vt) (FP b mp vi vt) := by
 have st : ∀ k,k < w.heap.size → k ≠ mp → w'.heap[k]? = w.heap[k]? := fun k hk hne => hg.block k hk (fun e => hne (by injection e))
 refine ⟨⟨h.ty,(st b h.bl (fun e => h.mb e.symm)).trans h.blk,qs h.ri fun k hk => st k (qR h.ri k hk) (fun e => h.im (e ▸ hk)),qs h.rt fun k hk => st k (qR h.rt k hk) (fun e => h.tm (e ▸ hk)),hn⟩,hg.os,hg.tape,hg.output,hg.size,fun k hk hF => st k hk fun e => hF (Or.inr (Or.inl e)),fun _ hk => Or.inl hk⟩
theorem PtR.grow {w5 : World} {o : Obj} {vi' : Value} {items' : List It} (h : PtR w b T rest vi mp vt items texts n f) (hg : (w.alloc o).drew.grownBy w5 vi.ownBlock) (ho : w5.ownsRow 0 162 4 vi' items'.length (encI items')) (hl : vi'.ownBlock = vi.ownBlock ∨ vi'.ownBlock = some (w.alloc o).drew.heap.size) :
  w5.heap[b]? = some (.cells (ptA vi mp vt rest) T (0,0)) ∧ PtR (w5.setCell ⟨b,0,none⟩ vi') b T rest vi' mp vt items' texts n f ∧ Fr w (w5.setCell ⟨b,0,none⟩ vi') (FP b mp vi vt) (FP b mp vi' vt) := by
 have hb1 := qd w o
 have hz : (w.alloc o).drew.heap.size = w.heap.size + 1 := by simp
 have hs := hg.size
 have st : ∀ k,k < w.heap.size → vi.ownBlock ≠ some k → w5.heap[k]? = w.heap[k]? := fun k hk hne => (hg.block k (by omega) (fun e => hne e.symm)).trans (hb1.block k hk)
 have h5 := (st b h.bl h.ib).trans h.blk
 have hvb : vi'.ownBlock ≠ some b := fun e => by
  rcases hl with e2 | e2
  ·rw [e2] at e; exact h.ib e
  ·rw [e2] at e; injection e with e; have := h.bl; omega
 have s6 : ∀ k,k ≠ b → (w5.setCell ⟨b,0,none⟩ vi').heap[k]? = w5.heap[k]? := fun k hk => Below.heap_setCell _ _ _ _ hk
 refine ⟨h5,⟨h.ty,?_,qs ho fun k hk => s6 k (fun e => hvb (e ▸ hk)),qs h.rt fun k hk => (s6 k (fun e => h.tb (e ▸ hk))).trans (st k (qR h.rt k hk) (fun e => h.it k e hk)),h.num.far ((s6 mp h.mb).trans (st mp h.num.lt h.im))⟩,hg.os,hg.tape,hg.output,?_,fun k hk hF => ?_,fun k hk => ?_⟩
 ·rw [heap_setCell_same w5 b 0 _ _ _ h5]; rfl
 ·simp; omega
 ·exact (s6 k fun e => hF (Or.inl e)).trans (st k hk fun e => hF (Or.inr (Or.inr (Or.inl e))))
 ·rcases hk with hk | hk | hk | hk
  ·exact Or.inl (Or.inl hk)
  ·exact Or.inl (Or.inr (Or.inl hk))
  ·rcases hl with e | e
   ·rw [e] at hk; exact Or.inl (Or.inr (Or.inr (Or.inl hk)))
   ·rw [e] at hk; injection hk with hk; right; omega
  ·exact Or.inl (Or.inr (Or.inr (Or.inr hk)))
theorem PtR.growT {w5 : World} {o : Obj} {vt' : Value} {texts' : List ByteArray} (h : PtR w b T rest vi mp vt items texts n f) (hg : (w.alloc o).grownBy w5 vt.ownBlock) (ho : w5.ownsRow 0 9 1 vt' texts'.length (texts'.map Value.string)) (hl : vt'.ownBlock = vt.ownBlock ∨ vt'.ownBlock = some (w.alloc o).heap.size) :
  w5.heap[b]? = some (.cells (ptA vi mp vt rest) T (0,0)) ∧ PtR (w5.setCell ⟨b,2,none⟩ vt') b T rest vi mp vt' items texts' n f ∧ Fr w (w5.setCell ⟨b,2,none⟩ vt') (FP b mp vi vt) (FP b mp vi vt') := by
 have hb1 := qd w o
 have hz : (w.alloc o).heap.size = w.heap.size + 1 := by simp
 have hs := hg.size
 have st : ∀ k,k < w.heap.size → vt.ownBlock ≠ some k → w5.heap[k]? = w.heap[k]? := fun k hk hne => (hg.block k (by omega) (fun e => hne e.symm)).trans (hb1.block k hk)
 have h5 := (st b h.bl h.tb).trans h.blk
 have hvb : vt'.ownBlock ≠ some b := fun e => by
  rcases hl with e2 | e2
  ·rw [e2] at e; exact h.tb e
  ·rw [e2] at e; injection e with e; have := h.bl; omega
 have s6 : ∀ k,k ≠ b → (w5.setCell ⟨b,2,none⟩ vt').heap[k]? = w5.heap[k]? := fun k hk => Below.heap_setCell _ _ _ _ hk
 refine ⟨h5,⟨h.ty,?_,qs h.ri fun k hk => (s6 k (fun e => h.ib (e ▸ hk))).trans (st k (qR h.ri k hk) (fun e => h.it k hk e)),qs ho fun k hk => s6 k (fun e => hvb (e ▸ hk)),h.num.far ((s6 mp h.mb).trans (st mp h.num.lt h.tm))⟩,hg.os,hg.tape,hg.output,?_,fun k hk hF => ?_,fun k hk => ?_⟩
 ·rw [heap_setCell_same w5 b 2 _ _ _ h5]; rfl
 ·simp; omega
 ·exact (s6 k fun e => hF (Or.inl e)).trans (st k hk fun e => hF (Or.inr (Or.inr (Or.inr e))))
 ·rcases hk with hk | hk | hk | hk
  ·exact Or.inl (Or.inl hk)
  ·exact Or.inl (Or.inr (Or.inl hk))
  ·exact Or.inl (Or.inr (Or.inr (Or.inl hk)))
  ·rcases hl with e | e
   ·rw [e] at hk; exact Or.inl (Or.inr (Or.inr (Or.inr hk)))
   ·rw [e] at hk; injection hk with hk; right; omega
end
structure Pts (w : World) (G : Nat → Prop) (b : Nat) (T : TypeId) (rest : List Value) (items : List It) (texts : List ByteArray) : Prop where
 nd : items.Nodup
 tl : texts.length = items.length
 few : items.length ≤ 20000000
 ok : ∀ x ∈ items,ItOk x
 tok : ∀ s ∈ texts,SOk s
 ex : ∃ vi mp vt,PtR w b T rest vi mp vt items texts items.length (posI items) ∧ ∀ k,G k ↔ FP b mp vi vt k
theorem Pts.lt {w : World} {G : Nat → Prop} {b : Nat} {T : TypeId} {rest : List Value} {items : List It} {texts : List ByteArray} (h : Pts w G b T rest items texts) : ∀ k,G k → k < w.heap.size := fun k hk => by
 obtain ⟨vi,mp,vt,hr,hG⟩ := h.ex
 exact hr.lt k ((hG k).1 hk)
theorem Pts.far {w w' : World} {G : Nat → Prop} {b : Nat} {T : TypeId} {rest : List Value} {items : List It} {texts : List ByteArray} (h : Pts w G b T rest items texts) (hb : ∀ k,G k → w'.heap[k]? = w.heap[k]?) : Pts w' G b T rest items texts := by
 obtain ⟨vi,mp,vt,hr,hG⟩ := h.ex
 exact ⟨h.nd,h.tl,h.few,h.ok,h.tok,vi,mp,vt,hr.far fun k hk => hb k ((hG k).2 hk),hG⟩
theorem Pts.up {w w' : World} {G : Nat → Prop} {b : Nat} {T : TypeId} {rest : List Value} {items : List It} {texts : List ByteArray} (h : Pts w G b T rest items texts) (hb : Below w.heap.size w w') : Pts w' G b T rest items texts := h.far fun k hk => hb.block k (h.lt k hk)
theorem Fr.alike {w w' : World} {F G F' G' : Nat → Prop} (h : Fr w w' F F') (h1 : ∀ k,F k → G k) (h2 : ∀ k,G' k → F' k) : Fr w w' G G' :=
 ⟨h.os,h.tape,h.output,h.size,fun k hk hn => h.keep k hk fun e => hn (h1 k e),fun k hk => (h.foot k (h2 k hk)).imp (h1 k) id⟩
theorem q6a {w : World} {G : Nat → Prop} {b : Nat} {T : TypeId} {rest : List Value} {items : List It} {texts : List ByteArray} (h : Pts w G b T rest items texts) (x : It) (hx : ItOk x) (j : Nat) (hj : posI items x = some j) :
  Calls Tryz.prog 122 #[.pointer (some ⟨b,0,none⟩),itV x] w fun e w' => e = .returned (.int .i64 (j : Int)) ∧ Below w.heap.size w w' := by
 obtain ⟨vi,mp,vt,hr,hG⟩ := h.ex
 have hr1 := hr.up (qd w (itO x))
 have c1 := hr1.c1
 have hb0 := (MapKept.heap_alloc w (itO x)).1
 have b0 : (w.alloc (itO x)).cell? ⟨w.heap.size,0,none⟩ = some (.int .u8 (x.op : Int)) := qb hb0 0
 have b1 : (w.alloc (itO x)).cell? ⟨w.heap.size,1,none⟩ = some (.int .u8 (x.p : Int)) := qb hb0 1
 have b2 : (w.alloc (itO x)).cell? ⟨w.heap.size,2,none⟩ = some (.int .i64 x.a) := qb hb0 2
 have b3 : (w.alloc (itO x)).cell? ⟨w.heap.size,3,none⟩ = some (.int .i64 x.b) := qb hb0 3
 have hlook : (Instr.lookup 123 (.map (some mp)) (itV x) true).run Tryz.prog (w.alloc (itO x)).drew = .ok (.tuple #[.int .i64 (j : Int),.bool true]) (w.alloc (itO x)).drew := by
  have := (show NumOf (w.alloc (itO x)).drew mp items.length (posI items) from hr1.num).look hx
  rw [hj] at this
  exact this
 have HB : Hid _ := qd w (itO x)
 clear h hr hr1 hG hb0 hx hj
 obtain ⟨op,p,xa,xb⟩ := x
 unfold itO at *
 unfold itV at *
 dsimp only at *
 go_enter Tryz.func122,Tryz.ntmps122
 go_upto_region 15 with fail
 go_region
 all_goals
  go_wp2
  go_ret
  exact ⟨rfl,HB.out.drew⟩
theorem q9A : (Tryz.prog.info? 9).map (fun i => (i.zero,i.size,i.bytes)) = some (some (.string ⟨#[]⟩),1,16) := by kernel_rfl
theorem q2f {w : World} {ops : Array Oper} {rest : List Oper} {o : Oper} {a : Act} {Q : Exit → Act → World → Prop} {T E : TypeId} {z : Value} {bt : Nat} (hu : Tryz.prog.underlying T = some (.slice E)) (hin : (Tryz.prog.info? E).map (fun i => (i.zero,i.size,i.bytes)) = some (some z,1,bt)) (hzs : z.cells.size = 1) (hbt : bt ≤ 1000) (hgd : o.guard = none) (s x : Operand)
  (ho : o.op = .call { callee := .builtin .append,args := #[s,x],argTypes := #[T,T] }) (base : Nat)
  (v : Value) (n : Nat) (xs : List Value) (y : Value) (g : Nat) (hs : a.eval s = v) (hx : a.eval x = .slice (some ⟨g,0,none⟩) 1 1) (hown : w.ownsRow base E 1 v n xs)
  (hB : w.cell? ⟨g,0,none⟩ = some y) (h1 : y.oneCell' = true) (hn : n ≤ 100000000) (hbase : base ≤ w.heap.size)
  (h : ∀ v' w',w'.ownsRow base E 1 v' (n + 1) (xs ++ [y]) → w.grownBy w' v.ownBlock → (v'.ownBlock = v.ownBlock ∨ v'.ownBlock = some w.heap.size) → wpList Tryz.prog ops Q rest (a.put o.dst v') w') : wpList Tryz.prog ops Q (o :: rest) a w := by
 obtain ⟨i,hi,hz0,hz1,hz2⟩ := info_parts hin
 have hb : (n + 1) * bt ≤ (100000000 + 1) * 1000 := Nat.mul_le_mul (by omega) hbt
 refine wpList_append_own_at w hgd s x T ho base E i _ 1 bt hu hi hz0 hz1 hz2 hzs (by decide) v n _ hs hown ⟨g,0,none⟩ 1 1 [y] hx rfl ?_ ?_ (by unfold maxLen; omega) (by omega) hbase ?_
 ·intro j u hj
  match j with
  | 0 => simp at hj; rw [← hj,qi]; exact hB
  | j + 1 => simp at hj
 ·intro u hu'
  simp at hu'
  subst hu'
  exact h1
 ·intro v' w' e1 e2 _ e3
  exact h v' w' e1 e2 e3
theorem qdY {w w8 : World} {G : Nat → Prop} {b mp : Nat} {T : TypeId} {rest : List Value} {vi vt vi' vt' : Value} {items : List It} {texts : List ByteArray} {x : It} (h : Pts w G b T rest items texts) (hG : ∀ k,G k ↔ FP b mp vi vt k) (hx : ItOk x) (hn : x ∉ items) (hl : items.length < 20000000)
  (hR : PtR w8 b T rest vi' mp vt' (items ++ [x]) (texts ++ [⟨#[]⟩]) (items.length + 1) (fun y => if y = x then some items.length else posI items y)) (fr : Fr w w8 (FP b mp vi vt) (FP b mp vi' vt')) :
  ∃ G',Pts w8 G' b T rest (items ++ [x]) (texts ++ [⟨#[]⟩]) ∧ Fr w w8 G G' := by
 refine ⟨FP b mp vi' vt',⟨List.nodup_append.2 ⟨h.nd,by simp,fun a ha c hc => by simp at hc; subst hc; exact fun e => hn (e ▸ ha)⟩,by simp [h.tl],by simp; omega,fun y hy => ?_,fun s hs => ?_,vi',mp,vt',⟨hR.ty,hR.blk,hR.ri,hR.rt,?_⟩,fun k => Iff.rfl⟩,fr.alike (fun k hk => (hG k).2 hk) (fun k hk => hk)⟩
 ·rcases List.mem_append.1 hy with hy | hy
  ·exact h.ok y hy
  ·simp at hy; subst hy; exact hx
 ·rcases List.mem_append.1 hs with hs | hs
  ·exact h.tok s hs
  ·simp at hs; subst hs; unfold SOk; decide
 ·rw [List.length_append]
  exact hR.num.alike fun y _ => q97 hn y
theorem q3Z {w : World} {G : Nat → Prop} {b : Nat} {T : TypeId} {rest : List Value} {items : List It} {texts : List ByteArray} (h : Pts w G b T rest items texts) (x : It) (hx : ItOk x) (hn : x ∉ items) (hl : items.length < 20000000) :
  Calls Tryz.prog 122 #[.pointer (some ⟨b,0,none⟩),itV x] w fun e w' => e = .returned (.int .i64 (items.length : Int)) ∧ ∃ G',Pts w' G' b T rest (items ++ [x]) (texts ++ [⟨#[]⟩]) ∧ Fr w w' G G' := by
 obtain ⟨vi,mp,vt,hr,hG⟩ := h.ex
 obtain ⟨ai,ci,rfl⟩ := qK hr.ri
 obtain ⟨at',ct,rfl⟩ := qK hr.rt
 have hr1 : PtR (w.alloc (itO x)).drew b T rest _ mp _ items texts items.length (posI items) := (hr.up (qd w (itO x))).up (Below.refl _ _).drew
 have c0 := (hr.up (qd w (itO x))).c0
 have c1 := (hr.up (qd w (itO x))).c1
 have hb0 := (MapKept.heap_alloc w (itO x)).1
 have b0 : (w.alloc (itO x)).cell? ⟨w.heap.size,0,none⟩ = some (.int .u8 (x.op : Int)) := qb hb0 0
 have b1 : (w.alloc (itO x)).cell? ⟨w.heap.size,1,none⟩ = some (.int .u8 (x.p : Int)) := qb hb0 1
 have b2 : (w.alloc (itO x)).cell? ⟨w.heap.size,2,none⟩ = some (.int .i64 x.a) := qb hb0 2
 have b3 : (w.alloc (itO x)).cell? ⟨w.heap.size,3,none⟩ = some (.int .i64 x.b) := qb hb0 3
 have hlook : (Instr.lookup 123 (.map (some mp)) (itV x) true).run Tryz.prog (w.alloc (itO x)).drew = .ok (.tuple #[.int .i64 0,.bool false]) (w.alloc (itO x)).drew := by
  have := hr1.num.look hx
  rw [q1A.2 hn] at this
  exact this
 obtain ⟨w4,hrun,hn4,hg4⟩ := (show NumOf (w.alloc (itO x)).drew.drew mp items.length (posI items) from hr1.num).put (by have := h.few; omega) hx (q1A.2 hn) items.length (by have := h.few; omega)
 obtain ⟨hp4,fr4⟩ := (hr1.up (Below.refl _ _).drew).put hg4 hn4
 have HP4 : Hid _ := hp4
 have HFR4 : Hid (Fr w w4 _ _) := (Fr.ofBelow ((qd w (itO x)).drew.drew)).trans fr4
 have d0 := hp4.c0
 have d0b := (hp4.up (qd w4 (itO x))).c0
 have hbx : w4.heap[w.heap.size]? = some (itO x) := by
  refine (hg4.block _ (by simp) (fun e => ?_)).trans hb0
  injection e with e
  have := hr.num.lt
  omega
 have e0 : w4.cell? ⟨w.heap.size,0,none⟩ = some (.int .u8 (x.op : Int)) := qb hbx 0
 have e1 : w4.cell? ⟨w.heap.size,1,none⟩ = some (.int .u8 (x.p : Int)) := qb hbx 1
 have e2 : w4.cell? ⟨w.heap.size,2,none⟩ = some (.int .i64 x.a) := qb hbx 2
 have e3 : w4.cell? ⟨w.heap.size,3,none⟩ = some (.int .i64 x.b) := qb hbx 3
 have hO : (w4.alloc (itO x)).drew.ownsRow 0 162 4 (.slice ai items.length ci) items.length (encI items) := World.ownsRow.alloc hp4.ri _
 have hB : (w4.alloc (itO x)).drew.heap[w4.heap.size]? = some (itO x) := (MapKept.heap_alloc w4 (itO x)).1
 have HI : Hid _ := h
 have HG : Hid _ := hG
 have HX : Hid _ := hx
 have HN : Hid _ := hn
 have HGROW : Hid _ := fun w5 vi' hg ho hl => hp4.grow (w5 := w5) (o := itO x) (vi' := vi') (items' := items ++ [x]) hg ho hl
 have htl := h.tl
 have hfew := h.few
 clear h hr hr1 hG hb0 hx hn hp4 fr4 hn4 hg4 hbx
 obtain ⟨op,p,xa,xb⟩ := x
 unfold itO at *
 unfold itV at *
 dsimp only at *
 generalize hL : items.length = L at *
 generalize hL2 : texts.length = L2 at *
 have HL : Hid (items.length = L) := hL
 have HL2 : Hid (texts.length = L2) := hL2
 subst htl
 clear hL hL2
 go_enter Tryz.func122,Tryz.ntmps122
 go_upto_region 15 with fail
 go_region
 all_goals
  clear hlook
  go_upto_region 15 with fail
  go_region
  all_goals
   clear hrun c0 c1 b0 b1 b2 b3
   go_upto_region 15 with fail
   go_region_law ((refine q4U rfl _ _ rfl (.slice ai L2 ci) L2 items ⟨op,p,xa,xb⟩ w4.heap.size rfl rfl hO hB (by omega) ?_; intro v5 w5 hown5 hgr5 hloc5; obtain ⟨a5,k5,rfl⟩ := qK hown5; have m5 := HGROW.out w5 _ hgr5 (by rw [List.length_append,HL.out]; exact hown5) hloc5; have c5 : w5.cell? ⟨b,0,none⟩ = some (.slice ai L2 ci) := qb m5.1 0; have z5 : w5.frozen? ⟨b,0,none⟩ = false := frozen_of_row w5 _ 0 _ _ m5.1))
   all_goals
    have HM6 : Hid _ := m5.2.1
    have HF6 : Hid _ := HFR4.out.trans m5.2.2
    clear hO hB d0 d0b e0 e1 e2 e3 c5 z5 m5 hown5 hgr5 hloc5
    generalize w5.setCell ⟨b,0,none⟩ (.slice a5 (L2 + 1) k5) = w6 at *
    have f2 := HM6.out.c2
    have hc7 : (w6.alloc (.cells #[.string ⟨#[]⟩] 9)).cell? ⟨w6.heap.size,0,none⟩ = some (.string ⟨#[]⟩) := qb (MapKept.heap_alloc w6 _).1 0
    have hO7 : (w6.alloc (.cells #[.string ⟨#[]⟩] 9)).ownsRow 0 9 1 (.slice at' L2 ct) L2 (texts.map Value.string) := by
     have := World.ownsRow.alloc HM6.out.rt (.cells #[.string ⟨#[]⟩] 9)
     rw [HL2.out] at this
     exact this
    go_wp2_with (at_builtin; refine q2f Tryz.underlying124 q9A rfl (by decide) rfl _ _ rfl 0 _ L2 (texts.map Value.string) (.string ⟨#[]⟩) w6.heap.size rfl rfl hO7 hc7 rfl (by omega) (Nat.zero_le _) ?_)
    intro v7 w7 hown7 hgr7 hloc7
    obtain ⟨a7,k7,rfl⟩ := qK hown7
    have m7 := HM6.out.growT (texts' := texts ++ [⟨#[]⟩]) hgr7 (by rw [List.length_append,HL2.out,List.map_append]; exact hown7) (by simpa using hloc7)
    have c7 : w7.cell? ⟨b,2,none⟩ = some (.slice at' L2 ct) := qb m7.1 2
    have z7 : w7.frozen? ⟨b,2,none⟩ = false := frozen_of_row w7 _ 2 _ _ m7.1
    have HM8 : Hid _ := m7.2.1
    have HF8 : Hid _ := HF6.out.trans m7.2.2
    clear hc7 hO7 m7 hown7 hgr7 hloc7 f2
    go_wp2
    go_ret
    have e := HL.out
    subst e
    exact ⟨rfl,qdY HI.out HG.out HX.out HN.out hl HM8.out HF8.out⟩
def txB (S : Tr) : ByteArray := ⟨(S.flat.map fun k => UInt8.ofNat (k.1 * 8 + k.2)).toArray⟩
def Cov (T0 : Tr) (items : List It) : Prop := ∀ n,n < items.length → ∃ S,Rep items n S ∧ InC T0 S
theorem qfm {T0 : Tr} {items : List It} (hn : items.Nodup) (h : Cov T0 items) : items.length ≤ (allC T0).length := by
 have hf : ∀ n,∃ S,n < items.length → Rep items n S ∧ InC T0 S := fun n => by
  by_cases hn : n < items.length
  ·obtain ⟨S,hS⟩ := h n hn
   exact ⟨S,fun _ => hS⟩
  ·exact ⟨.leaf (0,0),fun h => absurd h hn⟩
 have hl : ((List.range items.length).map fun n => Classical.choose (hf n)).length = items.length := by simp
 rw [← hl]
 refine q6s ?_ fun S hS => ?_
 ·unfold List.Nodup
  rw [List.pairwise_map]
  refine List.Pairwise.imp_of_mem ?_ (List.pairwise_lt_range (n := items.length))
  intro a b ha hb hab e
  have h1 := (Classical.choose_spec (hf a) (List.mem_range.1 ha)).1
  have h2 := (Classical.choose_spec (hf b) (List.mem_range.1 hb)).1
  rw [e] at h1
  have := Rep.num hn h1 h2
  omega
 ·obtain ⟨n,hn,rfl⟩ := List.mem_map.1 hS
  exact qfy (Classical.choose_spec (hf n) (List.mem_range.1 hn)).2
structure T0k (T0 : Tr) : Prop where
 kt : KT T0
 sz : T0.size ≤ 2048
structure PtO (T0 : Tr) (w : World) (G : Nat → Prop) (b : Nat) (T : TypeId) (rest : List Value) (items : List It) : Prop where
 t0 : T0k T0
 low : Low items
 cov : Cov T0 items
 ex : ∃ texts,Pts w G b T rest items texts ∧ ∀ n S,Rep items n S → texts[n]? = some ⟨#[]⟩ ∨ texts[n]? = some (txB S)
theorem PtO.lt {T0 : Tr} {w : World} {G : Nat → Prop} {b : Nat} {T : TypeId} {rest : List Value} {items : List It} (h : PtO T0 w G b T rest items) : ∀ k,G k → k < w.heap.size := by
 obtain ⟨texts,hp,_⟩ := h.ex
 exact hp.lt
theorem PtO.far {T0 : Tr} {w w' : World} {G : Nat → Prop} {b : Nat} {T : TypeId} {rest : List Value} {items : List It} (h : PtO T0 w G b T rest items) (hb : ∀ k,G k → w'.heap[k]? = w.heap[k]?) : PtO T0 w' G b T rest items := by
 obtain ⟨texts,hp,ht⟩ := h.ex
 exact ⟨h.t0,h.low,h.cov,texts,hp.far hb,ht⟩
theorem PtO.up {T0 : Tr} {w w' : World} {G : Nat → Prop} {b : Nat} {T : TypeId} {rest : List Value} {items : List It} (h : PtO T0 w G b T rest items) (hb : Below w.heap.size w w') : PtO T0 w' G b T rest items := h.far fun k hk => hb.block k (h.lt k hk)
theorem PtO.few {T0 : Tr} {w : World} {G : Nat → Prop} {b : Nat} {T : TypeId} {rest : List Value} {items : List It} (h : PtO T0 w G b T rest items) : items.length ≤ 20000000 := by
 obtain ⟨texts,hp,_⟩ := h.ex
 exact hp.few
def KeepP (T0 : Tr) (w : World) (G : Nat → Prop) (b : Nat) (T : TypeId) (rest : List Value) (items : List It) (R : List It → Int → Prop) (j : Int) (w' : World) : Prop :=
 ∃ (items' : List It) (G' : Nat → Prop),items <+: items' ∧ R items' j ∧ PtO T0 w' G' b T rest items' ∧ Fr w w' G G'
def KeepR (T0 : Tr) (w : World) (G : Nat → Prop) (b : Nat) (T : TypeId) (rest : List Value) (items : List It) (R : List It → Int → Prop) (e : Ending) (w' : World) : Prop :=
 ∃ (j : Int),e = .returned (.int .i64 j) ∧ KeepP T0 w G b T rest items R j w'
def IsN (S : Tr) (items : List It) (j : Int) : Prop := ∃ m : Nat,j = (m : Int) ∧ Rep items m S
theorem Rep.pre {items items' : List It} (h : items <+: items') {n : Nat} {S : Tr} (hr : Rep items n S) : Rep items' n S := by
 obtain ⟨l,rfl⟩ := h
 exact hr.more l
theorem q1X {T0 : Tr} {w : World} {G : Nat → Prop} {b : Nat} {T : TypeId} {rest : List Value} {items : List It} (h : PtO T0 w G b T rest items) (x : It) (S : Tr) (hS : InC T0 S) (hx : ItOk x) (ha : x.a < (items.length : Int)) (hb : x.b < (items.length : Int))
  (hR : ∀ items' j,items <+: items' → Low items' → items'[j]? = some x → Rep items' j S) :
  Calls Tryz.prog 122 #[.pointer (some ⟨b,0,none⟩),itV x] w (KeepR T0 w G b T rest items (IsN S)) := by
 obtain ⟨texts,hp,ht⟩ := h.ex
 cases hj : posI items x with
 | some j =>
  have hget := (q2n hp.nd).1 hj
  have hrep := hR items j (List.prefix_refl _) h.low hget
  exact (q6a hp x hx j hj).mono fun e w' ⟨he,hbw⟩ => ⟨(j : Int),he,items,G,List.prefix_refl _,⟨j,rfl,hrep⟩,h.up hbw,Fr.ofBelow hbw⟩
 | none =>
  have hn := q1A.1 hj
  have hlow : Low (items ++ [x]) := by
   have := q4i h.low ha hb
   have e : addI items x = (items ++ [x],items.length) := by
    rcases q1b items x with ⟨j,_,hj2⟩ | ⟨e,_⟩
    ·exact absurd (List.mem_of_getElem? hj2) hn
    ·exact e
   rw [e] at this
   exact this
  have hrep := hR (items ++ [x]) items.length (List.prefix_append _ _) hlow (by simp)
  have hnd : (items ++ [x]).Nodup := List.nodup_append.2 ⟨hp.nd,by simp,fun a h1 c hc => by simp at hc; subst hc; exact fun e => hn (e ▸ h1)⟩
  have hcov : Cov T0 (items ++ [x]) := fun n hn2 => by
   by_cases hlt : n < items.length
   ·obtain ⟨S',h1,h2⟩ := h.cov n hlt
    exact ⟨S',h1.more [x],h2⟩
   ·have : n = items.length := by simp at hn2; omega
    subst this
    exact ⟨S,hrep,hS⟩
  have hl : items.length < 20000000 := by
   have h1 := qfm hnd hcov
   have h2 := qfj h.t0.kt h.t0.sz
   simp at h1
   omega
  refine (q3Z hp x hx hn hl).mono fun e w' ⟨he,G',hp',fr⟩ => ⟨(items.length : Int),he,items ++ [x],G',List.prefix_append _ _,⟨_,rfl,hrep⟩,⟨h.t0,hlow,hcov,_,hp',fun n S' hr => ?_⟩,fr⟩
  by_cases hlt : n < items.length
  ·obtain ⟨S2,h1,_⟩ := h.cov n hlt
   have e := Rep.tree (h1.more [x]) hr
   subst e
   rw [List.getElem?_append_left (by rw [hp.tl]; exact hlt)]
   exact ht n _ h1
  ·have : n = items.length := by have := hr.lt; simp at this; omega
   subst this
   refine Or.inl ?_
   rw [← hp.tl]
   simp
theorem q1D : ∀ T : Tr,T.WF → ∀ k ∈ T.flat,k.1 ≤ 23 ∧ k.2 ≤ 7
 | .leaf (op,p),h,k,hk => by
  simp [Tr.flat] at hk
  subst hk
  rcases qQ h with ⟨rfl,hp⟩ | ⟨rfl,rfl | rfl | rfl | rfl | rfl⟩
  ·exact ⟨by show 2 ≤ 23; omega,hp⟩
  all_goals exact ⟨by decide,by decide⟩
 | .un (op,p) c,h,k,hk => by
  obtain ⟨rfl,hc,_,ho⟩ := qE h
  simp [Tr.flat] at hk
  rcases hk with hk | rfl
  ·exact q1D c hc k hk
  ·exact ⟨by show op ≤ 23; omega,Nat.zero_le _⟩
 | .bin (op,p) c d,h,k,hk => by
  obtain ⟨rfl,hc,hd,_,ho⟩ := qy h
  simp [Tr.flat] at hk
  rcases hk with hk | hk | rfl
  ·exact q1D c hc k hk
  ·exact q1D d hd k hk
  ·exact ⟨by show op ≤ 23; omega,Nat.zero_le _⟩
theorem qb5 {T0 S : Tr} (h0 : KT T0) (h : InC T0 S) : ∀ k ∈ S.flat,k.1 ≤ 23 ∧ k.2 ≤ 7 := by
 have hw : S.WF := by rcases q2P h0 h with k | k <;> exact k.wf
 exact q1D S hw
theorem it_ok {op : Nat} {a b : Int} (ho : op < 256) (ha : -1 ≤ a) (ha2 : a < 100000000) (hb : -1 ≤ b) (hb2 : b < 100000000) : ItOk ⟨op,0,a,b⟩ := ⟨ho,by show 0 < 256; decide,ha,ha2,hb,hb2⟩
theorem q40 {T0 : Tr} {w : World} {G : Nat → Prop} {b : Nat} {T : TypeId} {rest : List Value} {items : List It} (h : PtO T0 w G b T rest items) (op : Nat) (ho : op = 4 ∨ op = 5) :
  Calls Tryz.prog 177 #[.pointer (some ⟨b,0,none⟩),.int .u8 (op : Int)] w (KeepR T0 w G b T rest items (IsN (.leaf (op,0)))) := by
 have hk := q1X h ⟨op,0,-1,-1⟩ (.leaf (op,0)) (q6k ho) (it_ok (by omega) (by decide) (by decide) (by decide) (by decide)) (by show (-1 : Int) < _; omega) (by show (-1 : Int) < _; omega) (fun items' j _ _ hj => .leaf hj)
 unfold KeepR at *
 generalize KeepP T0 w G b T rest items (IsN (.leaf (op,0))) = Q at *
 clear h ho
 unfold itV at hk
 dsimp only at hk
 go_enter Tryz.func177,Tryz.ntmps177
 go_wp2_with fail
 refine hk.mono ?_
 rintro e w' ⟨j,rfl,hq⟩
 have HQ : Hid _ := hq
 clear hk hq
 go_wp2
 go_ret
 exact ⟨j,rfl,HQ.out⟩
theorem q1e {T0 : Tr} {w : World} {G : Nat → Prop} {b : Nat} {T : TypeId} {rest : List Value} {items : List It} (h : PtO T0 w G b T rest items) (op : Nat) (ho : op < 256) (m l : Nat) (c d : Tr) (hm : Rep items m c) (hl : Rep items l d) (hS : InC T0 (.bin (op,0) c d)) :
  Calls Tryz.prog 182 #[.pointer (some ⟨b,0,none⟩),.int .u8 (op : Int),.int .i64 (m : Int),.int .i64 (l : Int)] w (KeepR T0 w G b T rest items (IsN (.bin (op,0) c d))) := by
 have hk := q1X h ⟨op,0,(m : Int),(l : Int)⟩ (.bin (op,0) c d) hS (it_ok ho (by omega) (by have := hm.lt; have := h.few; omega) (by omega) (by have := hl.lt; have := h.few; omega)) (by show (m : Int) < _; have := hm.lt; omega) (by show (l : Int) < _; have := hl.lt; omega) (fun items' j hp hlow hj => by
  obtain ⟨h1,h2⟩ := q8v (k := (op,0)) hlow hj
  exact .bin hj h1 h2 (hm.pre hp) (hl.pre hp))
 unfold KeepR at *
 generalize KeepP T0 w G b T rest items (IsN (.bin (op,0) c d)) = Q at *
 clear h ho hm hl hS
 unfold itV at hk
 dsimp only at hk
 go_enter Tryz.func182,Tryz.ntmps182
 go_wp2_with fail
 refine hk.mono ?_
 rintro e w' ⟨j,rfl,hq⟩
 have HQ : Hid _ := hq
 clear hk hq
 go_wp2
 go_ret
 exact ⟨j,rfl,HQ.out⟩
def duO (op : Nat) : Nat := if op = 0 then 1 else if op = 1 then 0 else if op = 4 then 5 else if op = 5 then 4 else if op = 7 then 8 else if op = 8 then 7 else if op = 11 then 12 else if op = 12 then 11 else if op = 15 then 16 else if op = 16 then 15 else if op = 17 then 18 else 17
theorem q3X (op : Nat) (w : World) (h : op = 0 ∨ op = 1 ∨ op = 4 ∨ op = 5 ∨ op = 7 ∨ op = 8 ∨ op = 11 ∨ op = 12 ∨ op = 15 ∨ op = 16 ∨ op = 17 ∨ op = 18) : Calls Tryz.prog 184 #[.int .u8 (op : Int)] w fun e w' => e = .returned (.int .u8 (duO op : Int)) ∧ w' = w := by
 rcases h with rfl | rfl | rfl | rfl | rfl | rfl | rfl | rfl | rfl | rfl | rfl | rfl <;>
 ·go_enter Tryz.func184,Tryz.ntmps184
  go_wp2
  go_ret
  exact ⟨rfl,rfl⟩
end Go.Proofs.YtailhklbmenaoaaGreatDoor
