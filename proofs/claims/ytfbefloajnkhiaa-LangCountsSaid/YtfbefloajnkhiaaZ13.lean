/- Texts of the proof, put together: what it uses. -/
import Derived.Test.YtfbefloajnkhiaaZ10
import Derived.Test.YtfbefloajnkhiaaZ11
import Derived.Test.YtfbefloajnkhiaaZ12
set_option maxRecDepth 100000
set_option maxHeartbeats 16000000
namespace Go.Proofs.Ytfbefloajnkhiaa
open Go.RowKit Go.Maps
theorem q3D (x : Addr) (n c : Nat) (bs : List Bool) (w : World) (hB : BoSl w (some x) n c bs) (h1 : 0 < n) (h256 : n ≤ 256) :
  Calls Try.prog 50 #[.slice (some x) n c] w fun e w' => Below w.heap.size w w' ∧ ∃ g k,e = .returned (.slice (some ⟨g,0,none⟩) n k) ∧ w'.ownsRow w.heap.size 4 1 (.slice (some ⟨g,0,none⟩) n k) n (bs.map Value.bool) := by
 obtain ⟨Z,eZ⟩ : ∃ Z : Ending → World → Prop,Z = fun e w' => Below w.heap.size w w' ∧ ∃ g k,e = .returned (.slice (some ⟨g,0,none⟩) n k) ∧ w'.ownsRow w.heap.size 4 1 (.slice (some ⟨g,0,none⟩) n k) n (bs.map Value.bool) := ⟨_,rfl⟩
 have HZ : Hid (∀ w' v,Below w.heap.size w w' → w'.ownsRow w.heap.size 4 1 v n (bs.map Value.bool) → Z (.returned v) w') := fun w' v hb h => by
  obtain ⟨g,k,rfl,_⟩ := World.ownsRow.form h (by omega)
  rw [eZ]; exact ⟨hb,g,k,rfl,h⟩
 rw [← eZ]
 clear eZ
 obtain ⟨i,hi,hz0,hz1,hz2⟩ := info_parts q3F
 have hB1 := hB.up (q6 w (.cells #[] 4))
 have HO : Hid ((w.alloc (.cells #[] 4)).ownsRow w.heap.size 4 1 (.slice (some ⟨w.heap.size,0,none⟩) 0 0) 0 []) := ⟨rfl,.inr ⟨w.heap.size,0,#[],rfl,Nat.le_refl _,(MapKept.heap_alloc w _).1,Nat.le_refl _,by decide,rfl,rfl⟩⟩
 have hbl := hB.hlen
 have HC : Hid (∀ j u,(bs.map Value.bool)[j]? = some u → (w.alloc (.cells #[] 4)).cell? (x.add j) = some u) := fun j u hj => by
  rw [List.getElem?_map] at hj
  cases e : bs[j]? with
  | none => rw [e] at hj; cases hj
  | some y =>
   rw [e] at hj
   simp at hj
   subst hj
   have hjl := (List.getElem?_eq_some_iff.1 e).1
   have := hB1.c x rfl j hjl
   rw [this,(List.getElem?_eq_some_iff.1 e).2]
 have HLB : Hid _ := hbl
 have hnil := fun w => _root_.Go.run_eql_slice_nil (P := Try.prog) w 22 4 (some x) n c Try.underlying22
 dsimp only [Option.isNone] at hnil
 clear hB hB1 hbl
 go_enter Try.func50,Try.ntmps50
 go_wp2_with (at_builtin; refine wpList_append_own _ rfl _ _ 22 rfl w.heap.size 4 i _ 1 1 Try.underlying22 hi hz0 hz1 hz2 rfl (by decide) _ 0 _ rfl HO.out x n c (bs.map Value.bool) rfl (by rw [List.length_map,HLB.out,Nat.mul_one]) HC.out (fun u hu => by obtain ⟨b,_,rfl⟩ := List.mem_map.1 hu; rfl) (by unfold maxLen; omega) (by omega) (by simp) ?_)
 intro v' w' h1 h2 _
 have HE : Hid _ := HZ.out w' v' (((Below.refl w.heap.size w).alloc (Nat.le_refl _) (.cells #[] 4)).grown h2 (by simp) (qf HO.out)) (by simpa using h1)
 clear h1 h2 HO HC HZ
 go_wp2
 exact HE.out
theorem q3h {l : List Nat} {m : Nat} (h : m < l.length) : l[m]? = some (l.getD m 0) := by rw [List.getD_eq_getElem?_getD,List.getElem?_eq_getElem h]; rfl
theorem q2x {l : List Nat} {m : Nat} (h : m < l.length) : l.getD m 0 ∈ l := List.mem_of_getElem? (q3h h)
theorem FbM.zsl {wr : World} {gf : Nat} {vs : List Value} {F : List (List Nat)} (h : FbM wr gf vs F) {t : Nat} (ht : t < F.length) : ∃ a c,wr.cell? ⟨gf,t,none⟩ = some (.slice a (F.getD t []).length c) ∧ ZSl wr a (F.getD t []).length c ((F.getD t []).map Int.ofNat) := by
 obtain ⟨a,c,_,h2,h3,_⟩ := h.at ht
 obtain ⟨a',c',e,hz,_⟩ := q15 h3 Try.underlying23 qc
 injection e with e1 _ e3
 subst e1; subst e3
 exact ⟨a,c,h2,hz⟩
structure LvM (B : Nat) (w1 wr : World) (gl cl n : Nat) (ls : List Bool) (v : Value) (Q : List Nat) : Prop where
 lv : wr.ownsRow B 4 1 (.slice (some ⟨gl,0,none⟩) n cl) n (ls.map Value.bool)
 qo : wr.ownsRow B 3 1 v Q.length (inV Q)
 bel : Below B w1 wr
theorem LvM.ne {B : Nat} {w1 wr : World} {gl cl n : Nat} {ls : List Bool} {v : Value} {Q : List Nat} (h : LvM B w1 wr gl cl n ls v Q) : v.ownBlock ≠ some gl := fun e => by
 rcases h.qo.2 with ⟨rfl,_⟩ | ⟨g,cap,cur,rfl,_,h2,_⟩
 ·cases e
 ·injection e with e
  dsimp only at e
  subst e
  rcases h.lv.2 with ⟨h3,_⟩ | ⟨g',cap',cur',h3,_,h4,_⟩
  ·cases h3
  ·injection h3 with h3 _ _
   injection h3 with h3
   injection h3 with h3
   subst h3
   rw [h2] at h4
   injection h4 with h4
   injection h4 with _ h4 _
   exact absurd h4 (by decide)
theorem LvM.add {B : Nat} {w1 wr w7 : World} {gl cl n : Nat} {ls : List Bool} {v : Value} {Q : List Nat} (h : LvM B w1 wr gl cl n ls v Q) (hB : B ≤ wr.heap.size) {s : Nat} {o : Obj} {v7 : Value} (hq : w7.ownsRow B 3 1 v7 (Q.length + 1) (inV (Q ++ [s]))) (hg : (wr.alloc o).grownBy w7 v.ownBlock) : LvM B w1 w7 gl cl n ls v7 (Q ++ [s]) := by
 refine ⟨?_,by rw [List.length_append,List.length_singleton]; exact hq,?_⟩
 ·refine qk (World.ownsRow.alloc h.lv o) (fun g hg1 => hg.block g ?_ (fun e => ?_))
  ·have := (h.lv.lt g hg1).2; simp; omega
  ·injection hg1 with hg1
   dsimp only at hg1
   subst hg1
   exact h.ne e.symm
 ·exact (h.bel.alloc hB o).grown hg (by simp; omega) (qf h.qo)
theorem LvM.set {B : Nat} {w1 wr : World} {gl cl n : Nat} {ls : List Bool} {v : Value} {Q : List Nat} (h : LvM B w1 wr gl cl n ls v Q) (s : Nat) : LvM B w1 (wr.setCell ⟨gl,s,none⟩ (.bool true)) gl cl n (ls.set s true) v Q := by
 have hgl := qf h.lv gl rfl
 refine ⟨?_,?_,h.bel.setCell hgl _⟩
 ·rw [List.map_set]; exact q1k h.lv s (.bool true)
 ·exact qk h.qo (fun g hg1 => Below.heap_setCell _ _ _ _ (fun e => h.ne (by have e' : g = gl := e; rw [← e']; exact hg1)))
def LiR (n K : Nat) (R : List (List Nat)) (bs : List Bool) (w : World) (e : Ending) (w' : World) : Prop := Below w.heap.size w w' ∧ ∃ g c ls,e = .returned (.slice (some ⟨g,0,none⟩) n c) ∧ w'.ownsRow w.heap.size 4 1 (.slice (some ⟨g,0,none⟩) n c) n (ls.map Value.bool) ∧ LivA n K R bs ls
theorem q4i {n : Nat} {ls : List Bool} {Q : List Nat} (hl : ls.length = n) (h : ∀ s,s < n → ls.getD s false = decide (s ∈ Q)) {t : Nat} (ht : t < n) : ∀ s,s < n → (ls.set t true).getD s false = decide (s ∈ Q ++ [t]) := fun s hs => by
 rw [qz (by omega)]
 by_cases e : t = s
 ·subst e; simp
 ·have e' : ¬ s = t := fun h => e h.symm
  rw [if_neg e,h s hs]
  simp [e']
theorem q2V (aA : Option Addr) (cA : Nat) (aT : Option Addr) (cT n K : Nat) (bs : List Bool) (R : List (List Nat)) (w : World) (hM : MvS w aA cA aT cT n bs R) (hR : RowsP n K R) (hK : K ≤ 256) (h1n : 0 < n) (h256 : n ≤ 256) :
  Calls Try.prog 35 #[.agg #[.slice aA n cA,.slice aT n cT]] w (LiR n K R bs w) := by
 obtain ⟨Z,eZ⟩ : ∃ Z,Z = LiR n K R bs w := ⟨_,rfl⟩
 have HZ : Hid (∀ w' g c ls,Below w.heap.size w w' → w'.ownsRow w.heap.size 4 1 (.slice (some ⟨g,0,none⟩) n c) n (ls.map Value.bool) → LivA n K R bs ls → Z (.returned (.slice (some ⟨g,0,none⟩) n c)) w') := fun w' g c ls hb h1 h2 => by rw [eZ]; exact ⟨hb,g,c,ls,rfl,h1,h2⟩
 rw [← eZ]
 clear eZ
 have hb0 := q6 w (.cells #[.slice aA n cA,.slice aT n cT] 62 (0,0))
 have HB0 : Hid _ := hb0
 have HMV : Hid (MvG (w.alloc (.cells #[.slice aA n cA,.slice aT n cT] 62 (0,0))) w.heap.size (.slice aA n cA) (.slice aT n cT)) := qa w (.slice aA n cA) (.slice aT n cT)
 have m0 := HMV.out.c0
 have m1 := HMV.out.c1
 have jb := q2U aA cA aT cT n K bs R _ (hM.up hb0) hR hK h256
 have HHM : Hid _ := hM
 have HR : Hid _ := hR
 obtain ⟨xA,rfl⟩ := hM.bo.some_of h1n
 clear hb0 hM hR
 go_enter Try.func35,Try.ntmps35
 go_wp2_with fail
 refine jb.mono ?_
 rintro e w1 ⟨hb1,gf,vs,F,rfl,hgf,hF,hI⟩
 have HB1 : Hid (Below w.heap.size w w1) := q5 HB0.out hb1
 have c0 := (HMV.out.up hb1).c0
 have jc := q3D xA n cA bs w1 (HHM.out.bo.up HB1.out) h1n h256
 have HF : Hid (FbM w1 gf vs F) := hF
 have HI : Hid (BkI n K R n 0 F) := hI
 have HBL : Hid (bs.length = n) := HHM.out.bo.hlen
 clear jb hb1 hgf hF hI m0 m1 HB0 HMV
 go_wp2_with fail
 refine jc.mono ?_
 rintro e w2 ⟨hb2,gl,cl,rfl,hO2⟩
 have HL2 : Hid (LvM w1.heap.size w1 w2 gl cl n bs (.slice none 0 0) []) := ⟨hO2,⟨rfl,.inl ⟨rfl,rfl⟩⟩,hb2⟩
 clear jc hb2 hO2 c0
 go_wp2
 go_loopw [5,18] (fun v i wr => ∃ k : Nat,k ≤ n ∧ i = .int .i64 (k : Int) ∧ Hid (LvM w1.heap.size w1 wr gl cl n bs v (accL bs k))) (fun _ i _ => n - (intOf i).toNat)
 case atStart => exact ⟨0,Nat.zero_le _,rfl,HL2⟩
 case round =>
  clear HL2
  obtain ⟨k,hk,rfl,HL⟩ := hrel
  obtain ⟨va,vc,rfl⟩ := qg HL.out.qo
  have hal := q4N bs k
  by_cases hlt : k < n
  ·obtain ⟨e1,f1,hn1,hn2⟩ := qB HL.out.lv hlt
   have hbk : bs[k]? = some (bs.getD k false) := by rw [List.getD_eq_getElem?_getD,List.getElem?_eq_getElem (by have := HBL.out; omega)]; rfl
   rw [List.getElem?_map,hbk] at e1
   have hix : ∀ w',(Instr.indexAt 22 (.slice (some ⟨gl,0,none⟩) n cl) (.int .i64 (k : Int))).run Try.prog w' = .ok (.pointer (some ⟨gl,k,none⟩)) w' := fun w' => by
    have := qe (P := Try.prog) (T := 22) Try.underlying22 q17 (a := some ⟨gl,0,none⟩) (cap := cl) (n := n) (fun e => by cases e) k w' hlt
    simpa [adOf,q8] using this
   have HS : Hid _ := q4q bs k
   have hsz : w1.heap.size ≤ wr.heap.size := HL.out.bel.size
   generalize bs.getD k false = y at *
   cases y with
   | true =>
    have HS1 : Hid (accL bs (k + 1) = accL bs k ++ [k]) := HS.out
    clear HS
    obtain ⟨L,hL⟩ : ∃ L,L = (accL bs k).length := ⟨_,rfl⟩
    rw [← hL] at hal ⊢
    have HO6 : Hid ((wr.alloc (.cells #[.int .i64 (k : Int)] 3)).ownsRow w1.heap.size 3 1 (.slice va L vc) L (inV (accL bs k))) := by
     have := HL.out.qo
     rw [← hL] at this
     exact World.ownsRow.alloc this _
    have hc6 : (wr.alloc (.cells #[.int .i64 (k : Int)] 3)).cell? ⟨wr.heap.size,0,none⟩ = some (.int .i64 (k : Int)) := q7 (MapKept.heap_alloc wr _).1 0
    have hb6 : w1.heap.size ≤ (wr.alloc (.cells #[.int .i64 (k : Int)] 3)).heap.size := by simp; omega
    have hQ26 : L + 1 ≤ 2000000 := by omega
    have HHL : Hid _ := hL
    simp only [Option.map_some] at e1
    clear hL
    go_wp2_with (at_builtin; refine qr rfl _ _ rfl w1.heap.size _ L ((accL bs k).map Int.ofNat) rfl ?_ wr.heap.size (k : Int) rfl hc6 hQ26 hb6 ?_)
    ·first | exact HO6.out | (rw [← List.map_map]; exact HO6.out)
    intro v7 w7 hq7 hg7
    have HL7 : Hid (LvM w1.heap.size w1 w7 gl cl n bs v7 (accL bs (k + 1))) := by
     rw [HS1.out]
     refine HL.out.add hsz (s := k) (o := .cells #[.int .i64 (k : Int)] 3) (by rw [← HHL.out,inV,List.map_append,List.map_append,List.map_map]; simpa using hq7) (by rw [← HHL.out]; exact hg7)
    clear hq7 hg7 HO6 hc6 hb6 HL HS1
    go_wp2
    go_roundw
    case rel => exact ⟨k + 1,by omega,by go_num,HL7⟩
    case measure => simp [intOf]; omega
   | false =>
    have HL7 : Hid (LvM w1.heap.size w1 wr gl cl n bs (.slice va (accL bs k).length vc) (accL bs (k + 1))) := by
     rw [HS.out,if_neg (by decide),List.append_nil]
     exact HL.out
    simp only [Option.map_some] at e1
    clear HL HS
    go_wp2
    go_roundw
    case rel => exact ⟨k + 1,by omega,by go_num,HL7⟩
    case measure => simp [intOf]; omega
  ·obtain rfl : k = n := by omega
   have HS0 : Hid (LvQ k K R bs F 0 0 (accL bs k)) := q4A
   have HD0 : Hid (∀ s,s < k → bs.getD s false = decide (s ∈ accL bs k)) := fun s hs => by
    have : (s ∈ accL bs k) ↔ bs.getD s false = true := by
     unfold accL
     rw [List.mem_filter,List.mem_range]
     exact ⟨fun h => h.2,fun h => ⟨hs,h⟩⟩
    rw [Bool.eq_iff_iff,decide_eq_true_iff,this]
   have HBL2 : Hid _ := HBL.out
   clear hk hlt
   go_wp2
   go_loopw [5,8] (fun v i wr => ∃ (j : Nat) (Q : List Nat) (ls : List Bool),i = .int .i64 (j : Int) ∧ Hid (LvQ k K R bs F j 0 Q) ∧ Hid (LvM w1.heap.size w1 wr gl cl k ls v Q) ∧ Hid (ls.length = k ∧ ∀ s,s < k → ls.getD s false = decide (s ∈ Q)) ∧ j ≤ Q.length) (fun _ i _ => k - (intOf i).toNat)
   case atStart => exact ⟨0,accL bs k,bs,rfl,HS0,HL,⟨HBL2.out,HD0.out⟩,Nat.zero_le _⟩
   case round =>
    clear HS0 HL HD0 hal
    obtain ⟨j,Q,ls,rfl,HQ,HL,HD,hjQ⟩ := hrel
    have hQl : Q.length ≤ k := qS HQ.out.nd HQ.out.lt
    obtain ⟨va,vc,rfl,hU,hUb,_⟩ := q15 HL.out.qo Try.underlying23 qc
    have hsz : w1.heap.size ≤ wr.heap.size := HL.out.bel.size
    by_cases hlt : j < Q.length
    ·obtain ⟨x,hx⟩ : ∃ x,Q[j]? = some x := ⟨_,List.getElem?_eq_getElem hlt⟩
     have hix := fun w' => hU.idx Q.length j w' hlt (Nat.le_refl _)
     have hce := hU.cell j hlt
     rw [qi hlt] at hce
     have hqj : Q.getD j 0 = x := by rw [List.getD_eq_getElem?_getD,hx]; rfl
     rw [hqj] at hce
     have hxn : x < k := HQ.out.lt x (List.mem_of_getElem? hx)
     have hFl := HI.out.len
     have hFx := HI.out.few x hxn
     obtain ⟨fa,fc,cf,hfz⟩ := (HF.out.up HL.out.bel).zsl (t := x) (by omega)
     have hixf := fun w' => q2r gf k x hxn w'
     have HFX : Hid (∀ m,m < (F.getD x []).length → (F.getD x []).getD m 0 < k) := fun m hm => by
      have h1 := q2x hm
      obtain ⟨l,_,h2,_⟩ := (HI.out.mem x hxn _).1 h1
      unfold gone at h2; omega
     have HAT : Hid (∀ m,m < (F.getD x []).length → (F.getD x [])[m]? = some ((F.getD x []).getD m 0)) := fun m hm => q3h hm
     have HFZ : Hid (ZSl w1 fa (F.getD x []).length fc ((F.getD x []).map Int.ofNat)) := by
      obtain ⟨fa',fc',cf',hfz'⟩ := HF.out.zsl (t := x) (by omega)
      have h1 := q9 cf' HL.out.bel
      rw [cf] at h1
      injection h1 with h1
      injection h1 with h1 _ h3
      subst h1; subst h3
      exact hfz'
     have HX : Hid _ := hx
     obtain ⟨fl,hfl⟩ : ∃ fl,fl = (F.getD x []).length := ⟨_,rfl⟩
     rw [← hfl] at cf
     have hfl2 : fl ≤ 70000 := by
      have h1 : k * K ≤ 256 * 256 := Nat.mul_le_mul h256 hK
      omega
     have HFL : Hid _ := hfl
     clear hU hUb hqj hx hfz hfl hFx hFl
     generalize adOf va j = ad at *
     obtain ⟨ag,ao,az⟩ := ad
     go_wp2
     clear hix hce cf hixf
     go_loopw [5,43] (fun v i wy => ∃ (m : Nat) (Q2 : List Nat) (ls : List Bool),m ≤ fl ∧ i = .int .i64 (m : Int) ∧ Hid (LvQ k K R bs F j m Q2) ∧ Hid (LvM w1.heap.size w1 wy gl cl k ls v Q2) ∧ Hid (ls.length = k ∧ ∀ s,s < k → ls.getD s false = decide (s ∈ Q2)) ∧ Hid (Q2[j]? = some x)) (fun _ i _ => fl - (intOf i).toNat)
     case atStart => exact ⟨0,Q,ls,Nat.zero_le _,rfl,HQ,HL,HD,HX⟩
     case round =>
      clear HQ HL HD HX
      obtain ⟨m,Q2,ls,hm,rfl,HQ,HL,HD,HX⟩ := hrel
      have hQl2 : Q2.length ≤ k := qS HQ.out.nd HQ.out.lt
      have hjQ2 : j < Q2.length := (List.getElem?_eq_some_iff.1 HX.out).1
      obtain ⟨ua,uc,rfl⟩ := qg HL.out.qo
      have hsz2 : w1.heap.size ≤ wr.heap.size := HL.out.bel.size
      by_cases hmK : m < fl
      ·have hmK' : m < (F.getD x []).length := by rw [← HFL.out]; exact hmK
       have ik1 : ∀ w',(Instr.indexAt 23 (.slice fa fl fc) (.int .i64 (m : Int))).run Try.prog w' = .ok (.pointer (some (adOf fa m))) w' := fun w' => HFZ.out.idx fl m w' hmK (by rw [HFL.out]; exact Nat.le_refl _)
       have ck1 := (HFZ.out.up HL.out.bel).cell m hmK'
       rw [qi hmK'] at ck1
       have hs := HFX.out m hmK'
       have hat := HAT.out m hmK'
       have HSK : Hid ((F.getD x []).getD m 0 ∈ Q2 → LvQ k K R bs F j (m + 1) Q2) := fun h => HQ.out.skip HX.out hat h
       have HPU : Hid ((F.getD x []).getD m 0 ∉ Q2 → LvQ k K R bs F j (m + 1) (Q2 ++ [(F.getD x []).getD m 0])) := fun h => HQ.out.push HI.out HX.out hat h
       clear hat
       generalize (F.getD x []).getD m 0 = s at *
       obtain ⟨e1,f1,hn1,hn2⟩ := qB HL.out.lv hs
       have hbk : ls[s]? = some (decide (s ∈ Q2)) := by
        have h1 := HD.out.2 s hs
        rw [← h1,List.getD_eq_getElem?_getD,List.getElem?_eq_getElem (by have := HD.out.1; omega)]; rfl
       rw [List.getElem?_map,hbk] at e1
       have hixs : ∀ w',(Instr.indexAt 22 (.slice (some ⟨gl,0,none⟩) k cl) (.int .i64 (s : Int))).run Try.prog w' = .ok (.pointer (some ⟨gl,s,none⟩)) w' := fun w' => by
        have := qe (P := Try.prog) (T := 22) Try.underlying22 q17 (a := some ⟨gl,0,none⟩) (cap := cl) (n := k) (fun e => by cases e) s w' hs
        simpa [adOf,q8] using this
       generalize adOf fa m = ad3 at *
       obtain ⟨b1g,b1o,b1z⟩ := ad3
       simp only [Option.map_some] at e1
       clear hbk
       by_cases hmem : s ∈ Q2
       ·have HQ3 : Hid _ := HSK.out hmem
        rw [decide_eq_true hmem] at e1
        clear HSK HPU hmem HQ
        go_wp2
        go_roundw
        case rel => exact ⟨m + 1,Q2,ls,by omega,by go_num,HQ3,HL,HD,HX⟩
        case measure => simp [intOf]; omega
       ·have HQ3 : Hid _ := HPU.out hmem
        rw [decide_eq_false hmem] at e1
        have HLS : Hid (LvM w1.heap.size w1 (wr.setCell ⟨gl,s,none⟩ (.bool true)) gl cl k (ls.set s true) (.slice ua Q2.length uc) Q2) := HL.out.set s
        have HDS : Hid ((ls.set s true).length = k ∧ ∀ s',s' < k → (ls.set s true).getD s' false = decide (s' ∈ Q2 ++ [s])) := ⟨by rw [List.length_set]; exact HD.out.1,q4i HD.out.1 HD.out.2 hs⟩
        have HO6 : Hid (((wr.setCell ⟨gl,s,none⟩ (.bool true)).alloc (.cells #[.int .i64 (s : Int)] 3)).ownsRow w1.heap.size 3 1 (.slice ua Q2.length uc) Q2.length (inV Q2)) := World.ownsRow.alloc HLS.out.qo _
        have hc6 : ((wr.setCell ⟨gl,s,none⟩ (.bool true)).alloc (.cells #[.int .i64 (s : Int)] 3)).cell? ⟨wr.heap.size,0,none⟩ = some (.int .i64 (s : Int)) := by
         have := q7 (MapKept.heap_alloc (wr.setCell ⟨gl,s,none⟩ (.bool true)) (.cells #[.int .i64 (s : Int)] 3)).1 0
         simpa using this
        have hb6 : w1.heap.size ≤ ((wr.setCell ⟨gl,s,none⟩ (.bool true)).alloc (.cells #[.int .i64 (s : Int)] 3)).heap.size := by simp; omega
        have hQ26 : Q2.length + 1 ≤ 2000000 := by omega
        clear HSK HPU hmem HQ HD
        go_wp2_with (at_builtin; refine qr rfl _ _ rfl w1.heap.size _ Q2.length (Q2.map Int.ofNat) rfl ?_ wr.heap.size (s : Int) rfl hc6 hQ26 hb6 ?_)
        ·first | exact HO6.out | (rw [← List.map_map]; exact HO6.out)
        intro v7 w7 hq7 hg7
        have HL7 : Hid (LvM w1.heap.size w1 w7 gl cl k (ls.set s true) v7 (Q2 ++ [s])) :=
         HLS.out.add (by simpa using hsz2) (s := s) (o := .cells #[.int .i64 (s : Int)] 3) (by rw [inV,List.map_append,List.map_append,List.map_map]; simpa using hq7) hg7
        have HX7 : Hid ((Q2 ++ [s])[j]? = some x) := by
         show _ = _
         rw [List.getElem?_append_left hjQ2]
         exact HX.out
        clear hq7 hg7 HO6 hc6 hb6 HL HLS HX
        go_wp2
        go_roundw
        case rel => exact ⟨m + 1,_,_,by omega,by go_num,HQ3,HL7,HDS,HX7⟩
        case measure => simp [intOf]; omega
      ·obtain rfl : m = fl := by omega
       have HQ3 : Hid _ := HQ.out.next HX.out (by rw [← HFL.out]; exact Nat.le_refl _)
       clear HQ HX HZ
       go_wp2
       go_roundw
       case rel => exact ⟨j + 1,Q2,ls,by go_num,HQ3,HL,HD,by omega⟩
       case measure => simp [intOf]; omega
    ·have HFI : Hid (LivA k K R bs ls) := HQ.out.fin HR.out HI.out (by omega) HD.out.1 HD.out.2
     have HE : Hid _ := HZ.out wr gl cl ls (q5 HB1.out HL.out.bel) (qj HL.out.lv HB1.out.size) HFI.out
     have hdj : ¬ (j : Int) < (Q.length : Int) := by omega
     clear HZ HFI HQ HL HD hU hUb
     go_wp2
     exact HE.out
theorem q1R {w : World} {base e s n base' e' s' n' : Nat} {v v' : Value} {vs vs' : List Value} (h1 : w.ownsRow base e s v n vs) (h2 : w.ownsRow base' e' s' v' n' vs') (hne : e ≠ e') {b : Nat} (hb : v.ownBlock = some b) : v'.ownBlock ≠ some b := fun hb' => by
 rcases h1.2 with ⟨rfl,_⟩ | ⟨g,cap,cur,rfl,_,k1,_⟩
 ·cases hb
 ·injection hb with hb
  dsimp only at hb
  subst hb
  rcases h2.2 with ⟨rfl,_⟩ | ⟨g',cap',cur',rfl,_,k2,_⟩
  ·cases hb'
  ·injection hb' with hb'
   dsimp only at hb'
   subst hb'
   rw [k1] at k2
   injection k2 with k2
   injection k2 with _ k2 _
   exact hne k2
structure Bg where
 a : Option Addr
 c : Nat
 ts : List Nat
 s : Nat
abbrev Bg.pl (b : Bg) : List Nat × Nat := (b.ts,b.s)
abbrev Bg.v (b : Bg) : Value := .slice b.a b.ts.length b.c
def encB (L : List Bg) : List Value := L.flatMap fun b => [b.v,.int .i64 (b.s : Int)]
theorem q4t (t : Bg) (L : List Bg) : encB (t :: L) = t.v :: .int .i64 (t.s : Int) :: encB L := rfl
theorem q4Q (X Y : List Bg) : encB (X ++ Y) = encB X ++ encB Y := by simp [encB]
theorem q3c : ∀ (L : List Bg) (k : Nat) (x : Bg),L[k]? = some x → (encB L)[2 * k]? = some x.v ∧ (encB L)[2 * k + 1]? = some (.int .i64 (x.s : Int))
 | [],k,x,h => by simp at h
 | t :: L,0,x,h => by simp at h; subst h; exact ⟨rfl,rfl⟩
 | t :: L,k + 1,x,h => by
  have := q3c L k x (by simpa using h)
  rw [q4t,show 2 * (k + 1) = 2 * k + 1 + 1 by omega,show 2 * k + 1 + 1 + 1 = (2 * k + 1) + 1 + 1 by omega]
  simpa using this
theorem q4R (L : List Bg) : ∀ u ∈ encB L,u.oneCell' = true := by
 intro u hu
 unfold encB at hu
 obtain ⟨c,_,hc⟩ := List.mem_flatMap.1 hu
 simp at hc
 rcases hc with rfl | rfl <;> rfl
theorem q43 : (Try.prog.info? 101).map (fun i => (i.zero,i.size,i.bytes)) = some (some (.agg #[.slice none 0 0,.int .i64 0]),2,32) := by kernel_rfl
theorem q4d : (Try.prog.info? 101).map (·.size) = some 2 := by kernel_rfl
structure BgO (w : World) (base : Nat) (v : Value) (L : List Bg) : Prop where
 row : w.ownsRow base 101 2 v L.length (encB L)
 let' : ∀ b ∈ L,w.ownsRow 0 52 1 b.v b.ts.length (ltV b.ts)
theorem BgO.up {w w' : World} {base : Nat} {v : Value} {L : List Bg} (h : BgO w base v L) (hb : Below w.heap.size w w') : BgO w' base v L := ⟨qb h.row hb,fun b hb1 => qb (h.let' b hb1) hb⟩
theorem BgO.at {w : World} {base : Nat} {v : Value} {L : List Bg} (h : BgO w base v L) {i : Nat} {x : Bg} (hx : L[i]? = some x) :
  ∃ g cap oo,v = .slice (some ⟨g,0,none⟩) L.length cap ∧ base ≤ g ∧ g < w.heap.size ∧ (∀ w',(Instr.indexAt 102 (.slice (some ⟨g,0,none⟩) L.length cap) (.int .i64 (i : Int))).run Try.prog w' = .ok (.pointer (some ⟨g,oo,none⟩)) w') ∧ w.cell? ⟨g,oo,none⟩ = some x.v ∧ w.cell? ⟨g,oo + 1,none⟩ = some (.int .i64 (x.s : Int)) := by
 have hi : i < L.length := (List.getElem?_eq_some_iff.1 hx).1
 rcases h.row.2 with ⟨_,h0⟩ | ⟨g,cap,cur,rfl,hg,hcell,hnc,hcm,hsz,htk⟩
 ·omega
 ·have key : ∀ j,j < L.length * 2 → w.cell? ⟨g,j,none⟩ = (encB L)[j]? := fun j hj => by
   rw [← htk,List.getElem?_take,if_pos hj]
   simp [World.cell?,hcell]
  obtain ⟨e0,e1⟩ := q3c L i x hx
  refine ⟨g,cap,2 * i,rfl,hg,(Array.getElem?_eq_some_iff.1 hcell).1,fun w' => ?_,?_,?_⟩
  ·simp [Instr.indexAt,run_underlying Try.underlying102,asIntOf,qY q4d,hi,Result.andThen,go_sem,q8,Nat.mul_comm]
  ·rw [key _ (by omega),e0]
  ·rw [key _ (by omega),e1]
def BgB (w : World) (g : Nat) (x : Bg) : Prop := w.heap[g]? = some (.cells #[x.v,.int .i64 (x.s : Int)] 101 (0,0))
theorem BgB.lt {w : World} {g : Nat} {x : Bg} (h : BgB w g x) : g < w.heap.size := (Array.getElem?_eq_some_iff.1 h).1
theorem q2e (w : World) (x : Bg) : BgB (w.alloc (.cells #[x.v,.int .i64 (x.s : Int)] 101 (0,0))) w.heap.size x := (MapKept.heap_alloc w _).1
theorem q2I {w : World} {ops : Array Oper} {rest : List Oper} {o : Oper} {a : Act} {K : Exit → Act → World → Prop} (hgd : o.guard = none) (s x : Operand)
  (ho : o.op = .call { callee := .builtin .append,args := #[s,x],argTypes := #[102,102] }) (base : Nat)
  (v : Value) (L : List Bg) (y : Bg) (hs : a.eval s = v) (hown : w.ownsRow base 101 2 v L.length (encB L)) (g' : Nat) (hx : a.eval x = .slice (some ⟨g',0,none⟩) 1 1) (hB : BgB w g' y)
  (hn : L.length + 1 ≤ 2000000) (hbase : base ≤ w.heap.size)
  (h : ∀ g c w',w'.ownsRow base 101 2 (.slice (some ⟨g,0,none⟩) (L.length + 1) c) (L.length + 1) (encB (L ++ [y])) → w.grownBy w' v.ownBlock → (v.ownBlock = some g ∨ g = w.heap.size) → wpList Try.prog ops K rest (a.put o.dst (.slice (some ⟨g,0,none⟩) (L.length + 1) c)) w') : wpList Try.prog ops K (o :: rest) a w := by
 obtain ⟨i,hi,hz0,hz1,hz2⟩ := info_parts q43
 refine wpList_append_lies w hgd s x 102 ho base 101 i _ 2 32 Try.underlying102 hi hz0 hz1 hz2 rfl (by decide) v L.length _ hs hown ⟨g',0,none⟩ 1 1 (encB [y]) hx rfl (fun j u hj => ?_) (q4R [y]) (by decide) (by unfold maxLen; omega) (by omega) hbase _ rfl ?_
 ·rw [q8,Nat.zero_add,q7 hB]
  simpa [encB] using hj
 ·intro g c w' h1 h2 h3 _
  exact h g c w' (by rw [q4Q]; exact h1) h2 h3
theorem BgO.add {wr w3 w7 : World} {base : Nat} {v : Value} {L : List Bg} (h : BgO wr base v L) (hb : Below wr.heap.size wr w3) {y : Bg} (hy : w3.ownsRow 0 52 1 y.v y.ts.length (ltV y.ts)) {o : Obj} {v7 : Value} (hq : w7.ownsRow base 101 2 v7 (L.length + 1) (encB (L ++ [y]))) (hg : (w3.alloc o).grownBy w7 v.ownBlock) : BgO w7 base v7 (L ++ [y]) := by
 have hr3 : (w3.alloc o).ownsRow base 101 2 v L.length (encB L) := World.ownsRow.alloc (qb h.row hb) o
 have keep : ∀ {u : Value} {n : Nat} {xs : List Value},w3.ownsRow 0 52 1 u n xs → w7.ownsRow 0 52 1 u n xs := fun {u n xs} hu => by
  have hu2 := World.ownsRow.alloc hu o
  refine qk hu2 (fun g hg1 => hg.block g (hu2.lt g hg1).2 (fun e => ?_))
  exact q1R hr3 hu2 (by decide) e.symm hg1
 refine ⟨by rw [List.length_append,List.length_singleton]; exact hq,fun b hb1 => ?_⟩
 rcases List.mem_append.1 hb1 with hb1 | hb1
 ·exact keep (qb (h.let' b hb1) hb)
 ·simp only [List.mem_singleton] at hb1
  subst hb1
  exact keep hy
theorem q2g (f : Nat → Nat) (row : List Nat) (b : List Nat × Nat) : ∀ k,(exR f row b k).length ≤ k
 | 0 => Nat.le_refl _
 | k + 1 => by
  have := q2g f row b k
  rw [exR,List.length_append]
  split <;> simp <;> omega
theorem q2f {n K : Nat} {R : List (List Nat)} (hR : RowsP n K R) (hK : K ≤ 256) (f : Nat → Nat) : ∀ B : List (List Nat × Nat),(∀ b ∈ B,b.2 < n) → (exP R f B).length ≤ B.length * 256
 | [],_ => Nat.le_refl _
 | b :: B,h => by
  have h1 := q2f hR hK f B (fun x hx => h x (by simp [hx]))
  have h2 := q2g f (R.getD b.2 []) b (R.getD b.2 []).length
  rw [hR.row _ (h b (by simp))] at h2
  rw [exP,List.flatMap_cons,List.length_append]
  rw [hR.row _ (h b (by simp))]
  have : (exP R f B) = B.flatMap fun b => exR f (R.getD b.2 []) b (R.getD b.2 []).length := rfl
  rw [← this,List.length_cons]
  omega
theorem q4U {R : List (List Nat)} {f : Nat → Nat} {B : List (List Nat × Nat)} {i : Nat} {b : List Nat × Nat} (h : B[i]? = some b) : exP R f (B.take (i + 1)) = exP R f (B.take i) ++ exR f (R.getD b.2 []) b (R.getD b.2 []).length := by
 rw [exP,List.take_add_one,h,List.flatMap_append]
 simp [exP]
def ExtR (R : List (List Nat)) (f : Nat → Nat) (B : List (List Nat × Nat)) (w : World) (e : Ending) (w' : World) : Prop := Below w.heap.size w w' ∧ ∃ L a c,e = .returned (.slice a L.length c) ∧ BgO w' w.heap.size (.slice a L.length c) L ∧ L.map Bg.pl = exP R f B
theorem q1K (aA : Option Addr) (cA : Nat) (aT : Option Addr) (cT n K : Nat) (bs : List Bool) (R : List (List Nat)) (f : Nat → Nat) (gr base : Nat) (L0 : List Bg) (a0 : Option Addr) (c0 : Nat) (w : World) (hM : MvS w aA cA aT cT n bs R) (hR : RowsP n K R) (hK : K ≤ 256) (hN : NuRow w gr ((List.range n).map f)) (hL0 : BgO w base (.slice a0 L0.length c0) L0) (hlen : L0.length ≤ 4096) (hb : ∀ b ∈ L0,b.s < n ∧ b.ts.length ≤ 1000 ∧ ∀ k,k < K → f (trP R b.s k) < 18446744073709551616) :
  Calls Try.prog 56 #[.agg #[.slice aA n cA,.slice aT n cT],.slice a0 L0.length c0,.slice (some ⟨gr,0,none⟩) n n] w (ExtR R f (L0.map Bg.pl) w) := by
 obtain ⟨Z,eZ⟩ : ∃ Z,Z = ExtR R f (L0.map Bg.pl) w := ⟨_,rfl⟩
 have HZ : Hid (∀ w' L a c,Below w.heap.size w w' → BgO w' w.heap.size (.slice a L.length c) L → L.map Bg.pl = exP R f (L0.map Bg.pl) → Z (.returned (.slice a L.length c)) w') := fun w' L a c h1 h2 h3 => by rw [eZ]; exact ⟨h1,L,a,c,rfl,h2,h3⟩
 rw [← eZ]
 clear eZ
 have HV0 : Hid (MvG (w.alloc (.cells #[.slice aA n cA,.slice aT n cT] 62 (0,0))) w.heap.size (.slice aA n cA) (.slice aT n cT)) := qa w _ _
 have HB0 : Hid (Below w.heap.size w (w.alloc (.cells #[.slice aA n cA,.slice aT n cT] 62 (0,0)))) := q6 w _
 have HHM : Hid _ := hM
 have HR : Hid _ := hR
 have HNR : Hid (NuRow w gr ((List.range n).map f)) := hN
 have HL0 : Hid (BgO w base (.slice a0 L0.length c0) L0) := hL0
 have HBB : Hid _ := hb
 obtain ⟨m,hm⟩ : ∃ m,m = L0.length := ⟨_,rfl⟩
 have HM : Hid _ := hm
 rw [← hm] at hlen ⊢
 clear hM hR hN hL0 hb hm
 go_enter Try.func56,Try.ntmps56
 go_wp2
 generalize w.alloc (.cells #[.slice aA n cA,.slice aT n cT] 62 (0,0)) = w1 at *
 have HI0 : Hid (BgO w1 (w.heap.size + 1) (.slice none 0 0) []) := ⟨⟨rfl,.inl ⟨rfl,rfl⟩⟩,fun b hb => by cases hb⟩
 go_loopw [7,14] (fun v i wr => ∃ (k : Nat) (L : List Bg),k ≤ m ∧ i = .int .i64 (k : Int) ∧ Hid (Below w.heap.size w wr) ∧ Hid (MvG wr w.heap.size (.slice aA n cA) (.slice aT n cT)) ∧ Hid (BgO wr (w.heap.size + 1) v L) ∧ Hid (L.map Bg.pl = exP R f ((L0.map Bg.pl).take k))) (fun _ i _ => m - (intOf i).toNat)
 case atStart => exact ⟨0,[],Nat.zero_le _,rfl,HB0,HV0,HI0,rfl⟩
 case round =>
  clear HB0 HV0 HI0
  obtain ⟨k,L,hk,rfl,HB,HV,HO,HE⟩ := hrel
  obtain ⟨va,vc,rfl⟩ := qg HO.out.row
  by_cases hlt : k < m
  ·obtain ⟨x,hx⟩ : ∃ x,L0[k]? = some x := ⟨_,List.getElem?_eq_getElem (by rw [← HM.out]; exact hlt)⟩
   obtain ⟨g1,cap1,oo,e1,_,hgl,hix,q0,q1⟩ := BgO.at HL0.out hx
   injection e1 with e1 _ e3
   subst e1; subst e3
   rw [← HM.out] at hix
   have q0 := q9 q0 HB.out
   have q1 := q9 q1 HB.out
   obtain ⟨hxs,hxl,hxf⟩ := HBB.out x (List.mem_of_getElem? hx)
   obtain ⟨rg,ro,rz,ra,rl,rc,hrx,hrc,hrz⟩ := HHM.out.row hxs
   have hrl : rl = K := by have := hrz.hlen; rw [List.length_map,HR.out.row x.s hxs] at this; exact this.symm
   subst hrl
   have hbn := q6 wr (.cells #[x.v,.int .i64 (x.s : Int)] 101 (0,0))
   have HB2 : Hid (Below w.heap.size w (wr.alloc (.cells #[x.v,.int .i64 (x.s : Int)] 101 (0,0)))) := q5 HB.out hbn
   have HV2 : Hid (MvG (wr.alloc (.cells #[x.v,.int .i64 (x.s : Int)] 101 (0,0))) w.heap.size (.slice aA n cA) (.slice aT n cT)) := HV.out.up hbn
   have HO2 : Hid (BgO (wr.alloc (.cells #[x.v,.int .i64 (x.s : Int)] 101 (0,0))) (w.heap.size + 1) (.slice va L.length vc) L) := HO.out.up hbn
   have HX2 : Hid (BgB (wr.alloc (.cells #[x.v,.int .i64 (x.s : Int)] 101 (0,0))) wr.heap.size x) := q2e wr x
   have hrc := q9 hrc HB2.out
   have m1 := HV2.out.c1
   have HXL : Hid (w.ownsRow 0 52 1 x.v x.ts.length (ltV x.ts)) := HL0.out.let' x (List.mem_of_getElem? hx)
   have HXF : Hid _ := hxf
   have HRZ : Hid (ZSl w ra rl rc ((R.getD x.s []).map Int.ofNat)) := hrz
   have HNX : Hid (exP R f ((L0.map Bg.pl).take (k + 1)) = exP R f ((L0.map Bg.pl).take k) ++ exR f (R.getD x.s []) x.pl (R.getD x.s []).length) := q4U (b := x.pl) (by rw [List.getElem?_map,hx]; rfl)
   have hLm : L.length ≤ 1048576 := by
    have h1 := congrArg List.length HE.out
    rw [List.length_map] at h1
    have h2 := q2f HR.out hK f ((L0.map Bg.pl).take k) (fun b hb => by
     obtain ⟨y,hy,rfl⟩ := List.mem_map.1 (List.mem_of_mem_take hb)
     exact (HBB.out y hy).1)
    have h3 : ((L0.map Bg.pl).take k).length ≤ 4096 := by rw [List.length_take]; omega
    omega
   have HOW : Hid (BgO wr (w.heap.size + 1) (.slice va L.length vc) L) := HO.out
   clear hx hrz HB HV HO hbn hxf
   dsimp only [Bg.v] at q0
   go_wp2
   have HEQ : Hid (L.map Bg.pl = exP R f ((L0.map Bg.pl).take k) ++ exR f (R.getD x.s []) x.pl 0) := by show _ = _; rw [exR,List.append_nil]; exact HE.out
   have HG9 : Hid ((Value.slice va L.length vc).ownBlock ≠ some wr.heap.size) := fun e => by
    have h1 := (HOW.out.row.lt _ e).2
    omega
   clear hix q0 q1 hrx hrc m1 HE HOW
   generalize wr.alloc (.cells #[x.v,.int .i64 (x.s : Int)] 101 (0,0)) = w5 at *
   generalize wr.heap.size = g9 at *
   go_loopw [7,25] (fun v i wy => ∃ (j : Nat) (L2 : List Bg),j ≤ rl ∧ i = .int .i64 (j : Int) ∧ Hid (Below w.heap.size w wy) ∧ Hid (MvG wy w.heap.size (.slice aA n cA) (.slice aT n cT)) ∧ Hid (BgO wy (w.heap.size + 1) v L2) ∧ Hid (BgB wy g9 x) ∧ Hid (v.ownBlock ≠ some g9) ∧ Hid (L2.map Bg.pl = exP R f ((L0.map Bg.pl).take k) ++ exR f (R.getD x.s []) x.pl j)) (fun _ i _ => rl - (intOf i).toNat)
   case atStart => exact ⟨0,L,Nat.zero_le _,rfl,HB2,HV2,HO2,HX2,HG9,HEQ⟩
   case round =>
    clear HB2 HV2 HO2 HX2 HG9 HEQ
    obtain ⟨j,L2,hj,rfl,HB,HV,HO,HXB,HG,HE⟩ := hrel
    obtain ⟨ua,uc,rfl⟩ := qg HO.out.row
    by_cases hjK : j < rl
    ·have ik1 := fun w' => HRZ.out.idx rl j w' hjK (Nat.le_refl _)
     have ck1 := (HRZ.out.up HB.out).cell j hjK
     rw [qi (by rw [HR.out.row x.s hxs]; exact hjK)] at ck1
     have ht := HR.out.lt x.s j hxs hjK
     change wr.cell? _ = some (.int .i64 ((trP R x.s j : Nat) : Int)) at ck1
     have hft := HXF.out j hjK
     have HEX : Hid (exR f (R.getD x.s []) x.pl (j + 1) = exR f (R.getD x.s []) x.pl j ++ if f (trP R x.s j) = 0 then [] else [(x.ts ++ [j],trP R x.s j)]) := rfl
     generalize trP R x.s j = t at *
     obtain ⟨oo,-,hixn,d0,d1,-,-⟩ := (HNR.out.up HB.out).at (by simp) ht
     have hft2 : ((List.range n).map f).getD t 0 = f t := by simp [List.getD_eq_getElem?_getD,ht]
     rw [hft2,(qT hft).1] at d0
     clear d1 hft2
     generalize adOf ra j = ad3 at *
     obtain ⟨b1g,b1o,b1z⟩ := ad3
     by_cases hz : f t = 0
     ·rw [hz] at d0
      have HE2 : Hid (L2.map Bg.pl = exP R f ((L0.map Bg.pl).take k) ++ exR f (R.getD x.s []) x.pl (j + 1)) := by show _ = _; rw [HEX.out,if_pos hz,List.append_nil]; exact HE.out
      have d0 : wr.cell? ⟨gr,oo,none⟩ = some (.int .u64 0) := d0
      clear HEX HE hz
      go_wp2
      go_roundw
      case rel => exact ⟨j + 1,L2,by omega,by go_num,HB,HV,HO,HXB,HG,HE2⟩
      case measure => simp [intOf]; omega
     ·have hzi : (((f t : Nat) : Int) == 0) = false := by simpa using hz
      have hj8 : (j : Int) % 256 = j := by omega
      have b0 := q7 HXB.out 0
      have b1 := q7 HXB.out 1
      simp only [List.getElem?_toArray,List.getElem?_cons_zero,List.getElem?_cons_succ] at b0 b1
      have hL2 : L2.length ≤ 1048576 + 256 := by
       have h1 := congrArg List.length HE.out
       rw [List.length_map,List.length_append] at h1
       have h2 := q2f HR.out hK f ((L0.map Bg.pl).take k) (fun b hb => by
        obtain ⟨y,hy,rfl⟩ := List.mem_map.1 (List.mem_of_mem_take hb)
        exact (HBB.out y hy).1)
       have h3 : ((L0.map Bg.pl).take k).length ≤ 4096 := by rw [List.length_take]; omega
       have h4 := q2g f (R.getD x.s []) x.pl j
       omega
      obtain ⟨LL,hLL⟩ : ∃ LL,LL = (x.ts ++ [j]).length := ⟨_,rfl⟩
      have hXLw : wr.ownsRow 0 52 1 x.v x.ts.length (ltV x.ts) := qb HXL.out HB.out
      have jc : Calls Try.prog 58 #[.slice (some ⟨wr.heap.size + 1,0,none⟩) 2 2] ((wr.alloc (.cells #[.int .u8 (j : Int)] 52)).alloc (.cells #[.slice x.a x.ts.length x.c,.slice (some ⟨wr.heap.size,0,none⟩) 1 1] 27)) fun e w' => ∃ a c,e = .returned (.slice a LL c) ∧ Hid (w'.ownsRow 0 52 1 (.slice a LL c) LL (ltV (x.ts ++ [j]))) ∧ Hid (Below wr.heap.size wr w') := by
       have hbA := q6 wr (.cells #[.int .u8 (j : Int)] 52)
       have hbB := q6 (wr.alloc (.cells #[.int .u8 (j : Int)] 52)) (.cells #[.slice x.a x.ts.length x.c,.slice (some ⟨wr.heap.size,0,none⟩) 1 1] 27)
       have hcB := (MapKept.heap_alloc (wr.alloc (.cells #[.int .u8 (j : Int)] 52)) (.cells #[.slice x.a x.ts.length x.c,.slice (some ⟨wr.heap.size,0,none⟩) 1 1] 27)).1
       have hszB : (wr.alloc (.cells #[.int .u8 (j : Int)] 52)).heap.size = wr.heap.size + 1 := by simp
       rw [hszB] at hcB
       refine (q1E (wr.heap.size + 1) [⟨x.a,x.ts.length,x.c,x.ts⟩,⟨some ⟨wr.heap.size,0,none⟩,1,1,[j]⟩] _ ?_ ?_ ?_ ?_ (by simp)).mono ?_
       ·intro q hq
        rw [q7 hcB]
        match q,hq with
        | 0,_ => rfl
        | 1,_ => rfl
        | q + 2,hq => simp at hq; omega
       ·simp
       ·intro pp hpp
        simp only [List.mem_cons,List.not_mem_nil,or_false] at hpp
        rcases hpp with rfl | rfl
        ·exact ((q2j hXLw).up hbA).up hbB
        ·exact (q3p wr [j] (by simp)).up hbB
       ·show (joinW _).length ≤ _
        simp [joinW]; omega
       ·rintro e w3 ⟨v,rfl,h1,h2⟩
        have hj2 : joinW [⟨x.a,x.ts.length,x.c,x.ts⟩,⟨some ⟨wr.heap.size,0,none⟩,1,1,[j]⟩] = x.ts ++ [j] := by simp [joinW]
        rw [hj2,← hLL,q5y] at h1
        obtain ⟨a3,c3,rfl⟩ := qg h1
        exact ⟨a3,c3,rfl,qj h1 (Nat.zero_le _),q5 (q5 hbA hbB) h2⟩
      have HLL : Hid _ := hLL
      have hLm2 : LL ≤ 1001 := by rw [hLL,List.length_append,List.length_singleton]; omega
      clear hLL hXLw
      go_wp2_with fail
      refine jc.mono ?_
      rintro e w3 ⟨a3,c3,rfl,HY,HB3⟩
      have HYB : Hid (BgB (w3.alloc (.cells #[.slice a3 LL c3,.int .i64 (t : Int)] 101)) w3.heap.size ⟨a3,c3,x.ts ++ [j],t⟩) := by
       have := q2e w3 ⟨a3,c3,x.ts ++ [j],t⟩
       dsimp only [Bg.v] at this
       rw [← HLL.out] at this
       exact this
      have HYO : Hid (w3.ownsRow 0 52 1 (Bg.mk a3 c3 (x.ts ++ [j]) t).v (Bg.mk a3 c3 (x.ts ++ [j]) t).ts.length (ltV (Bg.mk a3 c3 (x.ts ++ [j]) t).ts)) := by
       dsimp only [Bg.v]
       rw [← HLL.out]
       exact HY.out
      have HR6 : Hid ((w3.alloc (.cells #[.slice a3 LL c3,.int .i64 (t : Int)] 101)).ownsRow (w.heap.size + 1) 101 2 (.slice ua L2.length uc) L2.length (encB L2)) := World.ownsRow.alloc (qb HO.out.row HB3.out) _
      have hb6 : w.heap.size + 1 ≤ (w3.alloc (.cells #[.slice a3 LL c3,.int .i64 (t : Int)] 101)).heap.size := by
       have h1 := HV.out.lt
       have h2 := HB3.out.size
       simp; omega
      have hQ26 : L2.length + 1 ≤ 2000000 := by omega
      clear jc HY b0 b1 d0 hixn ik1 ck1
      go_wp2_with (at_builtin; refine q2I rfl _ _ rfl (w.heap.size + 1) _ L2 ⟨a3,c3,x.ts ++ [j],t⟩ rfl HR6.out w3.heap.size rfl HYB.out hQ26 hb6 ?_)
      intro g7 c7 w7 hq7 hg7 hl7
      have HO7 : Hid (BgO w7 (w.heap.size + 1) (.slice (some ⟨g7,0,none⟩) (L2.length + 1) c7) (L2 ++ [⟨a3,c3,x.ts ++ [j],t⟩])) := HO.out.add HB3.out HYO.out hq7 hg7
      have hxl9 := HXB.out.lt
      have hs3 := HB3.out.size
      have keep : ∀ b,b < wr.heap.size → (Value.slice ua L2.length uc).ownBlock ≠ some b → w7.heap[b]? = wr.heap[b]? := fun b hb hne => by
       rw [hg7.block b (by simp; omega) (fun e => hne e.symm),(q6 w3 _).block b (by omega)]
       exact HB3.out.block b hb
      have HXB7 : Hid (BgB w7 g9 x) := (keep g9 hxl9 HG.out).trans HXB.out
      have HV7 : Hid (MvG w7 w.heap.size (.slice aA n cA) (.slice aT n cT)) := (keep _ HV.out.lt (fun e => by have := qf HO.out.row _ e; omega)).trans HV.out
      have HG7 : Hid ((Value.slice (some ⟨g7,0,none⟩) (L2.length + 1) c7).ownBlock ≠ some g9) := fun e => by
       injection e with e
       dsimp only at e
       rcases hl7 with h | h
       ·exact HG.out (by rw [h,e])
       ·first | omega | (simp at h; omega)
      have HB7 : Hid (Below w.heap.size w w7) := by
       have h1 := q5 HB.out HB3.out
       have h2 := h1.alloc h1.size (.cells #[.slice a3 LL c3,.int .i64 (t : Int)] 101)
       exact h2.grown hg7 h2.size (fun q e => by have := qf HO.out.row q e; omega)
      have HE7 : Hid ((L2 ++ [Bg.mk a3 c3 (x.ts ++ [j]) t]).map Bg.pl = exP R f ((L0.map Bg.pl).take k) ++ exR f (R.getD x.s []) x.pl (j + 1)) := by
       show _ = _
       rw [HEX.out,if_neg hz,List.map_append,HE.out,List.append_assoc]
       rfl
      clear hq7 hg7 hl7 keep HYB HYO HR6 hb6 HO HB HV HXB HG HE HEX HB3 hz
      go_wp2
      go_roundw
      case rel => exact ⟨j + 1,_,by omega,by go_num,HB7,HV7,HO7,HXB7,HG7,HE7⟩
      case measure => simp [intOf]; omega
    ·obtain rfl : j = rl := by omega
     have HE2 : Hid (L2.map Bg.pl = exP R f ((L0.map Bg.pl).take (k + 1))) := by
      show _ = _
      rw [HNX.out,HR.out.row x.s hxs]
      exact HE.out
     clear HE HZ HXB HG
     go_wp2
     go_roundw
     case rel => exact ⟨k + 1,L2,by omega,by go_num,HB,HV,HO,HE2⟩
     case measure => simp [intOf]; omega
  ·obtain rfl : k = m := by omega
   have HO2 : Hid (BgO wr w.heap.size (.slice va L.length vc) L) := ⟨qj HO.out.row (by omega),HO.out.let'⟩
   have HFE : Hid _ := HZ.out wr L va vc HB.out HO2.out (by rw [HE.out,List.take_of_length_le (by rw [List.length_map,HM.out]; exact Nat.le_refl _)])
   clear HZ HB HV HO HE HO2
   go_wp2
   exact HFE.out
structure LwO (w : World) (base : Nat) (v : Value) (L : List Bg) : Prop where
 row : w.ownsRow base 27 1 v L.length (L.map Bg.v)
 let' : ∀ b ∈ L,w.ownsRow 0 52 1 b.v b.ts.length (ltV b.ts)
theorem LwO.up {w w' : World} {base : Nat} {v : Value} {L : List Bg} (h : LwO w base v L) (hb : Below w.heap.size w w') : LwO w' base v L := ⟨qb h.row hb,fun b hb1 => qb (h.let' b hb1) hb⟩
theorem q1G : (Try.prog.info? 27).map (fun i => (i.zero,i.size,i.bytes)) = some (some (.slice none 0 0),1,24) := by kernel_rfl
theorem q2J {w : World} {ops : Array Oper} {rest : List Oper} {o : Oper} {a : Act} {Q : Exit → Act → World → Prop} (hgd : o.guard = none) (s x : Operand)
  (ho : o.op = .call { callee := .builtin .append,args := #[s,x],argTypes := #[39,39] }) (base : Nat)
  (v : Value) (n : Nat) (vs : List Value) (hs : a.eval s = v) (hown : w.ownsRow base 27 1 v n vs) (g' : Nat) (y : Option Addr) (len cap : Nat) (hx : a.eval x = .slice (some ⟨g',0,none⟩) 1 1) (hc : w.cell? ⟨g',0,none⟩ = some (.slice y len cap))
  (hn : n + 1 ≤ 2000000) (hbase : base ≤ w.heap.size)
  (h : ∀ v' w',w'.ownsRow base 27 1 v' (n + 1) (vs ++ [.slice y len cap]) → w.grownBy w' v.ownBlock → wpList Try.prog ops Q rest (a.put o.dst v') w') : wpList Try.prog ops Q (o :: rest) a w := by
 obtain ⟨i,hi,hz0,hz1,hz2⟩ := info_parts q1G
 refine wpList_append_own w hgd s x 39 ho base 27 i _ 1 24 Try.underlying39 hi hz0 hz1 hz2 rfl (by decide) v n _ hs hown ⟨g',0,none⟩ 1 1 [.slice y len cap] hx rfl ?_ (fun u hu => by simp at hu; subst hu; rfl) (by unfold maxLen; omega) (by omega) hbase ?_
 ·intro j u hj
  match j with
  | 0 => simp at hj; rw [← hj,q8]; exact hc
  | j + 1 => simp at hj
 ·intro v' w' h1 h2 _
  exact h v' w' h1 h2
theorem LwO.add {wr w7 : World} {base : Nat} {v : Value} {L : List Bg} (h : LwO wr base v L) {y : Bg} (hy : wr.ownsRow 0 52 1 y.v y.ts.length (ltV y.ts)) {v7 : Value} (hq : w7.ownsRow base 27 1 v7 (L.length + 1) (L.map Bg.v ++ [y.v])) (hg : wr.grownBy w7 v.ownBlock) : LwO w7 base v7 (L ++ [y]) := by
 have keep : ∀ {u : Value} {n : Nat} {xs : List Value},wr.ownsRow 0 52 1 u n xs → w7.ownsRow 0 52 1 u n xs := fun {u n xs} hu =>
  qk hu (fun g hg1 => hg.block g (hu.lt g hg1).2 (fun e => q1R h.row hu (by decide) e.symm hg1))
 refine ⟨by rw [List.length_append,List.length_singleton,List.map_append]; exact hq,fun b hb1 => ?_⟩
 rcases List.mem_append.1 hb1 with hb1 | hb1
 ·exact keep (h.let' b hb1)
 ·simp only [List.mem_singleton] at hb1
  subst hb1
  exact keep hy
theorem q1M : (Try.prog.info? 86).map (·.size) = some 1 := by kernel_rfl
theorem qL (g n c k : Nat) (hk : k < n) (w : World) : (Instr.indexAt 88 (.slice (some ⟨g,0,none⟩) n c) (.int .i64 (k : Int))).run Try.prog w = .ok (.pointer (some ⟨g,k,none⟩)) w := by
 have := qe (P := Try.prog) (T := 88) Try.underlying88 q1M (a := some ⟨g,0,none⟩) (cap := c) (n := n) (fun e => by cases e) k w hk
 simpa [adOf,q8] using this
def RsS (w : World) (gR n m : Nat) (R : List (List Nat)) (bs : List Bool) : Prop := ∀ i,i < m → ∃ g,w.cell? ⟨gR,i,none⟩ = some (.slice (some ⟨g,0,none⟩) n n) ∧ NuRow w g ((List.range n).map (cntP R bs i))
theorem RsS.up {w w' : World} {gR n m : Nat} {R : List (List Nat)} {bs : List Bool} (h : RsS w gR n m R bs) (hb : Below w.heap.size w w') : RsS w' gR n m R bs := fun i hi => by
 obtain ⟨g,h1,h2⟩ := h i hi
 exact ⟨g,q9 h1 hb,h2.up hb⟩
def SpeR (R : List (List Nat)) (bs : List Bool) (l : Nat) (w : World) (e : Ending) (w' : World) : Prop := Below w.heap.size w w' ∧ ∃ L a c,e = .returned (.slice a L.length c) ∧ LwO w' w.heap.size (.slice a L.length c) L ∧ L.map (·.ts) = spP R bs l
theorem q2l {α : Type} (f : α → Nat) : ∀ {l : List α} {x : α},x ∈ l → f x ≤ (l.map f).sum
 | a :: l,x,h => by
  rcases List.mem_cons.1 h with rfl | h
  ·simp
  ·have := q2l f h
   simp; omega
theorem q28 (aA : Option Addr) (cA : Nat) (aT : Option Addr) (cT n K : Nat) (bs : List Bool) (R : List (List Nat)) (gR cR l : Nat) (w : World) (hM : MvS w aA cA aT cT n bs R) (hR : RowsP n K R) (hK : K ≤ 256) (h1n : 0 < n) (hS : RsS w gR n (l + 1) R bs) (hl : l ≤ 3) (hc : cntP R bs l 0 ≤ 4096) :
  Calls Try.prog 48 #[.agg #[.slice aA n cA,.slice aT n cT],.slice (some ⟨gR,0,none⟩) (l + 1) cR] w (SpeR R bs l w) := by
 obtain ⟨Z,eZ⟩ : ∃ Z,Z = SpeR R bs l w := ⟨_,rfl⟩
 have HZ : Hid (∀ w' L a LL c,LL = L.length → Below w.heap.size w w' → LwO w' w.heap.size (.slice a LL c) L → L.map (·.ts) = spP R bs l → Z (.returned (.slice a LL c)) w') := fun w' L a LL c hLL h1 h2 h3 => by subst hLL; rw [eZ]; exact ⟨h1,L,a,c,rfl,h2,h3⟩
 rw [← eZ]
 clear eZ
 have HV0 : Hid (MvG (w.alloc (.cells #[.slice aA n cA,.slice aT n cT] 62 (0,0))) w.heap.size (.slice aA n cA) (.slice aT n cT)) := qa w _ _
 have hb0 := q6 w (.cells #[.slice aA n cA,.slice aT n cT] 62 (0,0))
 have HB0 : Hid _ := hb0
 have HHM : Hid _ := hM
 have HR : Hid _ := hR
 have HS : Hid (RsS w gR n (l + 1) R bs) := hS
 obtain ⟨gl,kl,hnl⟩ := hS.up hb0 l (by omega)
 have ixl := fun w' => qL gR (l + 1) cR l (by omega) w'
 obtain ⟨oo,ho,hix,d0,d1,-,-⟩ := hnl.at (by simp) (k := 0) h1n
 have hft : ((List.range n).map (cntP R bs l)).getD 0 0 = cntP R bs l 0 := by simp [List.getD_eq_getElem?_getD,h1n]
 rw [hft,(qT (by omega)).1] at d0
 have hix0 : ∀ w',(Instr.indexAt 86 (.slice (some ⟨gl,0,none⟩) n n) (.int .i64 0)).run Try.prog w' = .ok (.pointer (some ⟨gl,0,none⟩)) w' := by subst ho; exact hix
 have d0 : (w.alloc (.cells #[.slice aA n cA,.slice aT n cT] 62 (0,0))).cell? ⟨gl,0,none⟩ = some (.int .u64 ((cntP R bs l 0 : Nat) : Int)) := by subst ho; exact d0
 clear hM hR hS hnl ho hix d1 hft hb0
 have hl1 : ((l : Int) + 1 - 1) = (l : Int) := by omega
 by_cases hz : cntP R bs l 0 = 0
 ·have HE : Hid _ := HZ.out _ [] none 0 0 rfl HB0.out ⟨⟨rfl,.inl ⟨rfl,rfl⟩⟩,fun b hb => (by cases hb)⟩ (by rw [spP,if_pos hz]; rfl)
  rw [hz] at d0
  have d0 : (w.alloc (.cells #[.slice aA n cA,.slice aT n cT] 62 (0,0))).cell? ⟨gl,0,none⟩ = some (.int .u64 0) := d0
  clear HZ hz
  go_enter Try.func48,Try.ntmps48
  go_wp2
  exact HE.out
 ·have hzi : (((cntP R bs l 0 : Nat) : Int) == 0) = false := by simpa using hz
  have HZN : Hid _ := hz
  have HBG : Hid (∀ i,i ≤ l → BgI n K R bs i (l - i) (cntP R bs l 0) (bgP R bs l i)) := q3b HR.out hK h1n l hz
  have HSP : Hid (spP R bs l = (bgP R bs l l).map (·.1)) := by show _ = _; rw [spP,if_neg hz]
  generalize hC : cntP R bs l 0 = C at *
  clear hz hC HZN
  have HI0 : Hid (BgO ((w.alloc (.cells #[.slice aA n cA,.slice aT n cT] 62 (0,0))).alloc (.cells #[.slice none 0 0,.int .i64 0] 101)) (w.heap.size + 1) (.slice (some ⟨w.heap.size + 1,0,none⟩) 1 1) [⟨none,0,[],0⟩]) := by
   have hnb := (MapKept.heap_alloc (w.alloc (.cells #[.slice aA n cA,.slice aT n cT] 62 (0,0))) (.cells #[.slice none 0 0,.int .i64 0] 101)).1
   refine ⟨⟨rfl,.inr ⟨w.heap.size + 1,1,_,rfl,Nat.le_refl _,by simpa using hnb,Nat.le_refl _,by decide,rfl,rfl⟩⟩,fun b hb => ?_⟩
   simp only [List.mem_singleton] at hb
   subst hb
   exact ⟨rfl,.inl ⟨rfl,rfl⟩⟩
  have HB1 : Hid (Below w.heap.size w ((w.alloc (.cells #[.slice aA n cA,.slice aT n cT] 62 (0,0))).alloc (.cells #[.slice none 0 0,.int .i64 0] 101))) := q5 HB0.out (q6 _ _)
  have HV1 : Hid (MvG ((w.alloc (.cells #[.slice aA n cA,.slice aT n cT] 62 (0,0))).alloc (.cells #[.slice none 0 0,.int .i64 0] 101)) w.heap.size (.slice aA n cA) (.slice aT n cT)) := HV0.out.up (q6 _ _)
  go_enter Try.func48,Try.ntmps48
  go_wp2
  clear HB0 HV0 kl ixl hix0 d0 hzi
  generalize (w.alloc (.cells #[.slice aA n cA,.slice aT n cT] 62 (0,0))).alloc (.cells #[.slice none 0 0,.int .i64 0] 101) = w1 at *
  go_loopw [6,7] (fun v i wr => ∃ (k : Nat) (J : Int) (L : List Bg),k ≤ l ∧ i = .int .i64 J ∧ Hid (J = (l : Int) - 1 - (k : Int)) ∧ Hid (Below w.heap.size w wr) ∧ Hid (MvG wr w.heap.size (.slice aA n cA) (.slice aT n cT)) ∧ Hid (BgO wr (w.heap.size + 1) v L) ∧ Hid (L.map Bg.pl = bgP R bs l k)) (fun _ i _ => (intOf i + 1).toNat)
  case atStart => exact ⟨0,_,[⟨none,0,[],0⟩],Nat.zero_le _,rfl,by show _ = _; simp,HB1,HV1,HI0,rfl⟩
  case round =>
   clear HB1 HV1 HI0
   obtain ⟨k,J,L,hk,rfl,HJ,HB,HV,HO,HE⟩ := hrel
   obtain ⟨va,vc,rfl⟩ := qg HO.out.row
   have HI : Hid _ := HBG.out k hk
   have hLC : L.length ≤ C := by
    have h1 := HI.out.few
    rw [← HE.out,List.length_map] at h1
    exact h1
   by_cases hlt : k < l
   ·obtain ⟨r,hr⟩ : ∃ r,r = l - (k + 1) := ⟨_,rfl⟩
    have hJr : J = (r : Int) := by rw [HJ.out,hr]; omega
    subst hJr
    obtain ⟨g,hg,hnr⟩ := HS.out.up HB.out r (by omega)
    have ixr := fun w' => qL gR (l + 1) cR r (by omega) w'
    have m0 := HV.out.c0
    have m1 := HV.out.c1
    have HEX : Hid (exP R (cntP R bs r) (L.map Bg.pl) = bgP R bs l (k + 1)) := by show _ = _; rw [HE.out,hr]; rfl
    have jx : ∀ wx,Below wr.heap.size wr wx → Calls Try.prog 56 #[.agg #[.slice aA n cA,.slice aT n cT],.slice va L.length vc,.slice (some ⟨g,0,none⟩) n n] wx (ExtR R (cntP R bs r) (L.map Bg.pl) wx) := fun wx hb =>
     q1K aA cA aT cT n K bs R (cntP R bs r) g (w.heap.size + 1) L va vc wx (HHM.out.up (q5 HB.out hb)) HR.out hK (hnr.up hb) (HO.out.up hb) (by omega) (fun b hb1 => by
      have hm : b.pl ∈ bgP R bs l k := by rw [← HE.out]; exact List.mem_map.2 ⟨b,hb1,rfl⟩
      obtain ⟨_,h2,h3⟩ := HI.out.run b.pl hm
      have h4 := HI.out.len b.pl hm
      have h5 := q2l (fun b : List Nat × Nat => cntP R bs (l - k) b.2) hm
      rw [HI.out.sum] at h5
      refine ⟨h3,by show b.ts.length ≤ _; have h6 : b.ts.length = k := h4; omega,fun q hq => ?_⟩
      have h7 : cntP R bs (l - k) b.s = ((R.getD b.s []).map (cntP R bs r)).sum := by
       rw [show l - k = r + 1 by omega]; rfl
      have h8 := q2l (cntP R bs r) (l := R.getD b.s []) (x := trP R b.s q) (by
       have hlr : q < (R.getD b.s []).length := by rw [HR.out.row b.s h3]; exact hq
       exact q2x hlr)
      have h9 : cntP R bs (l - k) b.s ≤ C := h5
      omega)
    have HX : Hid (∀ wx e w6,Below wr.heap.size wr wx → ExtR R (cntP R bs r) (L.map Bg.pl) wx e w6 → ∃ L2 a c,e = .returned (.slice a (List.length L2) c) ∧ Hid (Below w.heap.size w w6) ∧ Hid (MvG w6 w.heap.size (.slice aA n cA) (.slice aT n cT)) ∧ Hid (BgO w6 (w.heap.size + 1) (.slice a L2.length c) L2) ∧ Hid (L2.map Bg.pl = bgP R bs l (k + 1))) := fun wx e w6 hb ⟨h1,L2,a,c,he,h2,h3⟩ => by
     have hs := HV.out.lt
     have hs2 := hb.size
     exact ⟨L2,a,c,he,q5 (q5 HB.out hb) h1,(HV.out.up hb).up h1,⟨qj h2.row (by omega),h2.let'⟩,by rw [← HEX.out]; exact h3⟩
    have HJ2 : Hid ((r : Int) - 1 = (l : Int) - 1 - ((k + 1 : Nat) : Int)) := by show _ = _; omega
    have hr0 : ¬ (r : Int) < 0 := by omega
    have hr3 : r ≤ 3 := by omega
    clear HB HV HO HE HEX hnr hr HI
    go_wp2
    go_region_with (first
     | (go_at_call 56; (with_reducible refine (jx _ (by first | exact Below.refl _ _ | exact (Below.refl _ _).drew | exact below_drewN (Below.refl _ _) _)).mono ?_); intro e w6 hq6; obtain ⟨L2,a2,c2,rfl,HB2,HV2,HO2,HE2⟩ := HX.out _ e w6 (by first | exact Below.refl _ _ | exact (Below.refl _ _).drew | exact below_drewN (Below.refl _ _) _) hq6; clear hq6)
     | fail)
    all_goals
     clear HX jx hg ixr m0 m1
     go_wp2
     go_roundw
     case rel => exact ⟨k + 1,_,L2,by omega,rfl,HJ2,HB2,HV2,HO2,HE2⟩
     case measure => simp [intOf] <;> omega
   ·obtain rfl : k = l := by omega
    have hJ1 : J = -1 := by rw [HJ.out]; omega
    subst hJ1
    have HFN : Hid (L.map (·.ts) = spP R bs k) := by
     show _ = _
     rw [HSP.out,← HE.out,List.map_map]; rfl
    have HLW : Hid (LwO wr w.heap.size (.slice none 0 0) []) := ⟨⟨rfl,.inl ⟨rfl,rfl⟩⟩,fun b hb => by cases hb⟩
    clear HJ HE HSP HBG HI HV
    obtain ⟨m,hm⟩ : ∃ m,m = L.length := ⟨_,rfl⟩
    have HM : Hid _ := hm
    rw [← hm] at hLC ⊢
    clear hm
    go_wp2
    go_loopw [8,39] (fun v i wy => ∃ q : Nat,q ≤ m ∧ i = .int .i64 (q : Int) ∧ Hid (Below w.heap.size w wy) ∧ Hid (BgO wy (w.heap.size + 1) (.slice va m vc) L) ∧ Hid (LwO wy w.heap.size v (L.take q))) (fun _ i _ => m - (intOf i).toNat)
    case atStart => exact ⟨0,Nat.zero_le _,rfl,HB,by rw [HM.out]; exact HO,HLW⟩
    case round =>
     clear HB HO HLW
     obtain ⟨q,hq,rfl,HB,HO,HLW⟩ := hrel
     obtain ⟨ua,uc,rfl⟩ := qg HLW.out.row
     have hql : (L.take q).length = q := by rw [List.length_take,← HM.out]; omega
     by_cases hlt2 : q < m
     ·obtain ⟨x,hx⟩ : ∃ x,L[q]? = some x := ⟨_,List.getElem?_eq_getElem (by rw [← HM.out]; exact hlt2)⟩
      have hO1 : BgO wr (w.heap.size + 1) (.slice va L.length vc) L := by rw [← HM.out]; exact HO.out
      obtain ⟨g1,cap1,oo1,e1,_,hgl,hix,q0,q1⟩ := BgO.at hO1 hx
      injection e1 with e1 _ e3
      subst e1; subst e3
      rw [← HM.out] at hix
      have HTK : Hid (L.take (q + 1) = L.take q ++ [x]) := by show _ = _; rw [List.take_add_one,hx]; rfl
      have hbn := q6 wr (.cells #[x.v,.int .i64 (x.s : Int)] 101 (0,0))
      have HX2 : Hid (BgB (wr.alloc (.cells #[x.v,.int .i64 (x.s : Int)] 101 (0,0))) wr.heap.size x) := q2e wr x
      have b0 := q7 HX2.out 0
      simp only [List.getElem?_toArray,List.getElem?_cons_zero] at b0
      have hXO := hO1.let' x (List.mem_of_getElem? hx)
      have HXO : Hid (((wr.alloc (.cells #[x.v,.int .i64 (x.s : Int)] 101 (0,0))).alloc (.cells #[x.v] 27)).ownsRow 0 52 1 x.v x.ts.length (ltV x.ts)) := World.ownsRow.alloc (qb hXO hbn) _
      have HLW2 : Hid (LwO ((wr.alloc (.cells #[x.v,.int .i64 (x.s : Int)] 101 (0,0))).alloc (.cells #[x.v] 27)) w.heap.size (.slice ua (L.take q).length uc) (L.take q)) := (HLW.out.up hbn).up (q6 _ _)
      have HB2 : Hid (Below w.heap.size w ((wr.alloc (.cells #[x.v,.int .i64 (x.s : Int)] 101 (0,0))).alloc (.cells #[x.v] 27))) := q5 (q5 HB.out hbn) (q6 _ _)
      have HO2 : Hid (BgO ((wr.alloc (.cells #[x.v,.int .i64 (x.s : Int)] 101 (0,0))).alloc (.cells #[x.v] 27)) (w.heap.size + 1) (.slice (some ⟨g1,0,none⟩) m vc) L) := (HO.out.up hbn).up (q6 _ _)
      have hc6 : ((wr.alloc (.cells #[x.v,.int .i64 (x.s : Int)] 101 (0,0))).alloc (.cells #[x.v] 27)).cell? ⟨wr.heap.size + 1,0,none⟩ = some x.v := by simp
      have hb6 : w.heap.size ≤ ((wr.alloc (.cells #[x.v,.int .i64 (x.s : Int)] 101 (0,0))).alloc (.cells #[x.v] 27)).heap.size := HB2.out.size
      have hQ26 : q + 1 ≤ 2000000 := by omega
      have HQL : Hid _ := hql
      have HLR : Hid (((wr.alloc (.cells #[x.v,.int .i64 (x.s : Int)] 101 (0,0))).alloc (.cells #[x.v] 27)).ownsRow w.heap.size 27 1 (.slice ua q uc) q ((L.take q).map Bg.v)) := by
       have := HLW2.out.row
       rw [hql] at this
       exact this
      rw [hql]
      clear hql
      dsimp only [Bg.v] at q0
      clear hx hO1 hbn hXO HLW HB HO
      go_wp2_with (at_builtin; refine q2J rfl _ _ rfl w.heap.size _ q ((L.take q).map Bg.v) rfl HLR.out (wr.heap.size + 1) x.a x.ts.length x.c rfl hc6 hQ26 hb6 ?_)
      intro v7 w7 hq7 hg7
      have HLW7 : Hid (LwO w7 w.heap.size v7 (L.take (q + 1))) := by
       rw [HTK.out]
       exact HLW2.out.add HXO.out (by rw [HQL.out,List.map_take]; exact hq7) (by rw [HQL.out]; exact hg7)
      have HB7 : Hid (Below w.heap.size w w7) := HB2.out.grown hg7 HB2.out.size (qf HLR.out)
      have HO7 : Hid (BgO w7 (w.heap.size + 1) (.slice (some ⟨g1,0,none⟩) m vc) L) := by
       have kp : ∀ {e s n base : Nat} {u : Value} {xs : List Value},e ≠ 27 → ((wr.alloc (.cells #[x.v,.int .i64 (x.s : Int)] 101 (0,0))).alloc (.cells #[x.v] 27)).ownsRow base e s u n xs → w7.ownsRow base e s u n xs := fun {e s n base u xs} hne hu =>
        qk hu (fun g hg1 => hg7.block g (hu.lt g hg1).2 (fun ee => q1R HLR.out hu (Ne.symm hne) ee.symm hg1))
       exact ⟨kp (by decide) HO2.out.row,fun b hb => kp (by decide) (HO2.out.let' b hb)⟩
      clear hq7 hg7 HLR hc6 hb6 HLW2 HB2 HO2 HX2 HXO b0 q0 q1 hix HTK
      go_wp2
      go_roundw
      case rel => exact ⟨q + 1,by omega,by go_num,HB7,HO7,HLW7⟩
      case measure => simp [intOf]; omega
     ·obtain rfl : q = m := by omega
      have HT : Hid (L.take q = L) := by show _ = _; rw [List.take_of_length_le (by rw [HM.out]; exact Nat.le_refl _)]
      have hLW := HLW.out
      rw [HT.out] at hLW ⊢
      have HFE : Hid _ := HZ.out wr L ua L.length uc rfl HB.out hLW HFN.out
      clear HZ HB HO HLW hLW HT hql
      go_wp2
      exact HFE.out
end Go.Proofs.Ytfbefloajnkhiaa
