/- Texts of the proof, put together: what it uses. -/
import Derived.Deep.RegionHeld3
import Derived.Deep.RegionLaw
import Derived.Deep.DeepCutAuto
import Derived.Test.YtailhklbmenaoaaGreatDoorZ17
import Derived.Test.YtailhklbmenaoaaGreatDoorZ21
set_option maxRecDepth 100000
set_option maxHeartbeats 16000000
namespace Go.Proofs.YtailhklbmenaoaaGreatDoor
open Go.RowKit Go.Maps
def encM (ns : List Nat) : List Value := ns.map fun n : Nat => Value.int .i64 (n : Int)
theorem qdo (ks : List Nat) (m : Nat) : (encM ks).take (m * 1) = encM (ks.take m) := by simp [encM,List.map_take]
theorem q35 : (Tryz.prog.info? 3).map (·.size) = some 1 := by kernel_rfl
theorem q4K : (Tryz.prog.info? 3).map (fun i => (i.zero,i.size,i.bytes)) = some (some (.int .i64 0),1,8) := by kernel_rfl
theorem q7o {w : World} {base L m : Nat} {v : Value} {ns : List Nat} (h : w.ownsRow base 3 1 v L (encM ns)) (hm : m ≤ L) :
  ∃ a cap b,v = .slice a L cap ∧ (∀ w',(Instr.sliceAt 29 (.slice a L cap) none (some (.int .i64 (m : Int))) none).run Tryz.prog w' = .ok (.slice a m cap) w') ∧ w.ownsRow base 3 1 (.slice a m cap) m (encM (ns.take m)) ∧ (∀ w',(Instr.sliceAt 29 (.slice a L cap) (some (.int .i64 (m : Int))) none none).run Tryz.prog w' = .ok (.slice b (L - m) (cap - m)) w') ∧ NsSl w b (L - m) (cap - m) (ns.drop m) ∧ (Value.slice a m cap).ownBlock = v.ownBlock := by
 have hlen : ns.length = L := by have := h.1; simpa [encM] using this
 obtain ⟨a,cap,rfl,h1,h2,h3,h4,h0⟩ := q4c h hm
 rw [qdo] at h4
 obtain ⟨b,h5,h6,h7⟩ := cut_n (P := Tryz.prog) (T := 29) Tryz.underlying29 q35 a L cap m hm h1 h3
 refine ⟨a,cap,b,rfl,pre_n Tryz.underlying29 q35 a L cap m hm h1 h3,h4,h5,?_,h0⟩
 have had : ∀ k,k < L - m → ∃ g cur,a = some ⟨g,0,none⟩ ∧ w.heap[g]? = some (.cells cur 3 (0,0)) ∧ cur.toList.take (L * 1) = encM ns ∧ adOf b k = ⟨g,m + k,none⟩ := fun k hk => by
  rcases h.2 with ⟨e,e0⟩ | ⟨g,cap',cur,e,_,hcell,_,_,_,htk⟩
  ·omega
  ·injection e with e1 _ _
   subst e1
   refine ⟨g,cur,rfl,hcell,htk,?_⟩
   rw [h7 (by omega) _ rfl]
   simp [adOf,qi]
 refine ⟨by simp [hlen],by omega,by omega,fun n k w' hk hn => ?_,fun k hk => ?_,fun k hk => ?_,h6⟩
 ·exact q1j Tryz.underlying29 q35 (fun e => by have := h6 e; omega) k w' hk
 ·obtain ⟨g,cur,_,hcell,htk,e⟩ := had k hk
  rw [e,qb hcell]
  have : cur.toList[m + k]? = (encM ns)[m + k]? := by rw [← htk,List.getElem?_take,if_pos (by omega)]
  rw [← Array.getElem?_toList,this]
  have hmk : m + k < ns.length := by omega
  simp [encM,List.getD_eq_getElem?_getD,hmk]
 ·obtain ⟨g,cur,_,hcell,_,e⟩ := had k hk
  rw [e]
  exact (Array.getElem?_eq_some_iff.1 hcell).1
structure NumSt (S : World → (Nat → Prop) → List It → Prop) (fd : Fnd) (w wr : World) (G G1 : Nat → Prop) (items items1 : List It) (a : Option Addr) (len cap : Nat) (ts : List Tk) (v : Value) (st : List Nat) (k : Nat) : Prop where
 s : S wr G1 items1
 fr : Fr w wr G G1
 tk : TkSl wr a len cap ts
 ap : 0 < len → ∀ x,a = some x → ¬ G1 x.block
 row : wr.ownsRow w.heap.size 3 1 v st.length (encM st)
 off : ∀ k,v.ownBlock = some k → ¬ G1 k
 ns : nS fd (ts.take k) (items,[]) = some (items1,st)
 lt : ∀ j ∈ st,j < items1.length
 pre : ∃ l,items1 = items ++ l
 few : st.length ≤ k
def EntersT (F : FuncId) : Prop := ∀ args w,(callFunc F args).run Tryz.prog w = .ok (.enter F args) w
theorem qfE {op p : Nat} {ns : List Nat} {N : Nat} (h1 : op < 256) (h2 : p < 256) (hN : N ≤ 4096) (h : ∀ j ∈ ns,j < N) : ItOk (itemOf (op,p) ns) := by
 match ns,h with
 | [],_ => exact ⟨h1,h2,by show (-1 : Int) ≤ -1; omega,by show (-1 : Int) < 100000000; omega,by show (-1 : Int) ≤ -1; omega,by show (-1 : Int) < 100000000; omega⟩
 | [x],h =>
  have := h x (by simp)
  exact ⟨h1,h2,by show (-1 : Int) ≤ (x : Int); omega,by show (x : Int) < 100000000; omega,by show (-1 : Int) ≤ -1; omega,by show (-1 : Int) < 100000000; omega⟩
 | x :: y :: _,h =>
  have := h x (by simp)
  have := h y (by simp)
  exact ⟨h1,h2,by show (-1 : Int) ≤ (x : Int); omega,by show (x : Int) < 100000000; omega,by show (-1 : Int) ≤ (y : Int); omega,by show (y : Int) < 100000000; omega⟩
theorem Fr.trans' {w w1 w2 : World} {F F1 F2 : Nat → Prop} (h : Fr w w1 F F1) (k : Fr w1 w2 F1 F2) : Fr w w2 F F2 :=
 ⟨k.os.trans h.os,k.tape.trans h.tape,k.output.trans h.output,Nat.le_trans h.size k.size,fun j hj hf => (k.keep j (Nat.lt_of_lt_of_le hj h.size) (fun h1 => by
  rcases h.foot j h1 with e | e
  ·exact hf e
  ·omega)).trans (h.keep j hj hf),fun j hj => by
  rcases k.foot j hj with e | e
  ·exact h.foot j e
  ·exact Or.inr (Nat.le_trans h.size e)⟩
theorem FindC.uni {S : World → (Nat → Prop) → List It → Prop} {fd : Fnd} {fid bx : Nat} (h : FindC S fd fid bx) (w : World) (G : Nat → Prop) (items : List It) (x : It) (hx : ItOk x) (hS : S w G items) : Calls Tryz.prog fid #[itV x,.pointer (some ⟨bx,0,none⟩)] w fun e w' =>
  ∃ (j : Nat) (f : Bool),e = .returned (.tuple #[.int .i64 (j : Int),.bool f]) ∧ ((f = true ∧ ∃ items',fd items x = some (items',j) ∧ ∃ G',S w' G' items' ∧ Fr w w' G G') ∨ (f = false ∧ fd items x = none ∧ ∃ G',S w' G' items ∧ Fr w w' G G')) :=
 (h w G items x hx hS).mono fun e w' hq => by
  rcases hq with ⟨⟨r,j⟩,h1,h2,h3⟩ | ⟨h1,h2,h3⟩
  ·exact ⟨j,true,h2,Or.inl ⟨rfl,r,h1,h3⟩⟩
  ·exact ⟨0,false,h2,Or.inr ⟨rfl,h1,h3⟩⟩
theorem q6c (S : World → (Nat → Prop) → List It → Prop) (fd : Fnd) (fid bx : Nat) (hE : EntersT fid) (hFd : FindC S fd fid bx) (hP : FdOk fd)
  (hlt : ∀ {w G items},S w G items → (∀ k,G k → k < w.heap.size) ∧ items.length ≤ 4096) (hfar : ∀ {w w' G items},S w G items → (∀ k,G k → w'.heap[k]? = w.heap[k]?) → S w' G items)
  (w : World) (G : Nat → Prop) (items : List It) (a : Option Addr) (len cap : Nat) (ts : List Tk) (T : Tr) (hS : S w G items) (hT : TkSl w a len cap ts) (hA : 0 < len → ∀ x,a = some x → ¬ G x.block)
  (hl : 0 < len) (hg : GGood ts T) (hf : fewL false ts = true) :
  Calls Tryz.prog 144 #[.slice a len cap,.func (.func fid) #[] #[.pointer (some ⟨bx,0,none⟩)]] w fun e w' => ∃ G' items',S w' G' items' ∧ Fr w w' G G' ∧ (∃ l,items' = items ++ l) ∧ (∃ k st,nS fd (ts.take k) (items,[]) = some (items',st)) ∧
   ((∃ j st,nS fd ts (items,[]) = some (items',st ++ [j]) ∧ e = .returned (.tuple #[.int .i64 (j : Int),.bool true])) ∨ (nS fd ts (items,[]) = none ∧ e = .returned (.tuple #[.int .i64 0,.bool false]))) := by
 have HS0 : Hid (NumSt S fd w w G G items items a len cap ts (.slice none 0 0) [] 0) := ⟨hS,Fr.same (Below.refl _ _),hT,hA,⟨rfl,Or.inl ⟨rfl,rfl⟩⟩,fun k hk => (by cases hk),rfl,fun j hj => (by simp at hj),⟨[],by simp⟩,Nat.le_refl _⟩
 have HLEN : Hid (ts.length = len) := hT.hlen
 have HT0 : Hid _ := hT
 have HA0 : Hid _ := hA
 have HG : Hid _ := hg
 have hl2 : len ≤ 2048 := by have := hg.few; have := hT.hlen; omega
 have HF : Hid _ := hf
 have HFD : Hid _ := hFd
 have HLT : Hid (∀ {w G items},S w G items → (∀ k,G k → k < w.heap.size) ∧ items.length ≤ 4096) := hlt
 have HFAR : Hid (∀ {w w' G items},S w G items → (∀ k,G k → w'.heap[k]? = w.heap[k]?) → S w' G items) := hfar
 have HP : Hid _ := hP
 unfold EntersT at hE
 clear hS hT hA hg hf hFd hlt hfar hP
 go_enter Tryz.func144,Tryz.ntmps144
 go_wp2
 go_loopw [4,5,6,12] (fun i b v c wr => ∃ k : Nat,k ≤ len ∧ c = .int .i64 k ∧ ∃ (j : Nat) (f : Bool),i = .int .i64 (j : Int) ∧ b = .bool f ∧ ∃ G1 items1 st,Hid (NumSt S fd w wr G G1 items items1 a len cap ts v st k) ∧ Hid (0 < k → f = true ∧ ∃ st',st = st' ++ [j])) (fun _ _ _ c _ => len - (intOf c).toNat)
 case atStart => exact ⟨0,Nat.zero_le _,rfl,0,false,rfl,rfl,G,items,[],HS0,fun h => absurd h (by omega)⟩
 case round =>
  obtain ⟨k,hk,rfl,j,f,rfl,rfl,G1,items1,st,HN,HJ⟩ := hrel
  clear HS0
  have hfw := HN.out.few
  by_cases hlt : k < len
  ·have hxl : k < ts.length := by have := HLEN.out; omega
   obtain ⟨g1,o1,s1,hi1,hx0,hx1,hg1,_⟩ := HN.out.tk.at Tryz.underlying22 q1U k hlt
   have hidx := fun w' => hi1 len w' hlt
   clear hi1
   have HNX : Hid (nS fd (ts.take (k + 1)) (items,[]) = nStep fd (items1,st) ts[k]) := qfT fd hxl HN.out.ns
   have HOFF : Hid (nStep fd (items1,st) ts[k] = none → nS fd ts (items,[]) = none) := fun h => qgG fd (k := k + 1) (HNX.out.trans h)
   have hdep : takC ts[k] ≤ st.length := by
    have := (HG.out.ok k hxl).2
    rw [← qdF fd (ts.take k) (items,[]) (items1,st) [] rfl HN.out.ns] at this
    exact this
   obtain ⟨b,hfa⟩ := qdq hxl HF.out
   have hok := HN.out.tk.ok ts[k] (List.getElem_mem hxl)
   generalize ts[k] = q at *
   obtain ⟨op,p⟩ := q
   dsimp only at hx0 hx1 HNX hfa hok
   obtain ⟨htn,h23,n3,n9,n10,n13,n14,_⟩ := q5j hfa
   have hc := q28 htn
   clear hfa htn
   have hTk := fun w' => q7a op w' h23 n3 n9 n10
   rw [← hc] at hTk
   have hn2 : takC (op,p) ≤ 2 := by rw [hc]; exact q5G op
   have HSTEP : Hid (nStep fd (items1,st) (op,p) = (fd items1 (itemOf (op,p) (st.drop (st.length - takC (op,p))))).map fun r => (r.1,st.take (st.length - takC (op,p)) ++ [r.2])) := rfl
   clear hc
   generalize takC (op,p) = n at *
   obtain ⟨M,hM⟩ : ∃ M,M = st.length - n := ⟨_,rfl⟩
   rw [← hM] at HSTEP
   obtain ⟨av,cv,bv,rfl,hpre,hown,hcut,hns,hob⟩ := q7o HN.out.row (m := M) (by omega)
   rw [show st.length - M = n by omega] at hcut hns
   have HO : Hid _ := hown
   have HOB : Hid _ := hob
   have HIX : Hid (ItOk (itemOf (op,p) (st.drop M))) := qfE hok.1 hok.2 (HLT.out HN.out.s).2 (fun j hj => HN.out.lt j (List.mem_of_mem_drop hj))
   have hb1 := qd wr (.cells #[.int .u8 (op : Int),.int .u8 (p : Int)] 90)
   have hwr : IntKind.i64.wrap ((st.length : Int) - (n : Int)) = (M : Int) := by rw [IntKind.wrap_i64]; omega
   have hML : M ≤ st.length := by omega
   have HIT : Hid (∀ w',Below wr.heap.size wr w' → Calls Tryz.prog 158 #[.agg #[.int .u8 (op : Int),.int .u8 (p : Int)],.slice bv n (cv - M)] w' fun e w'' => e = .returned (itV (itemOf (op,p) (st.drop M))) ∧ Below w'.heap.size w' w'') := fun w' hb => q6b op p bv n (cv - M) (st.drop M) w' (hns.up hb) hn2
   have HFI : Hid (∀ w',Below wr.heap.size wr w' → S w' G1 items1) := fun w' hb => HFAR.out HN.out.s fun k hk => hb.block k ((HLT.out HN.out.s).1 k hk)
   clear hns hown hob hM
   go_wp2_with (go_at_call 157; refine (hTk _).mono ?_; rintro e w' ⟨rfl,rfl⟩)
   have ct0 : (wr.alloc (.cells #[.int .u8 (op : Int),.int .u8 (p : Int)] 90)).cell? ⟨wr.heap.size,0,none⟩ = some (.int .u8 (op : Int)) := qb (MapKept.heap_alloc wr _).1 0
   have ct1 : (wr.alloc (.cells #[.int .u8 (op : Int),.int .u8 (p : Int)] 90)).cell? ⟨wr.heap.size,1,none⟩ = some (.int .u8 (p : Int)) := qb (MapKept.heap_alloc wr _).1 1
   have hitem := HIT.out (wr.alloc (.cells #[.int .u8 (op : Int),.int .u8 (p : Int)] 90)).drew hb1.drew
   have HB1 : Hid _ := hb1.drew
   have hz1 : (wr.alloc (.cells #[.int .u8 (op : Int),.int .u8 (p : Int)] 90)).heap.size = wr.heap.size + 1 := by simp
   clear hb1
   generalize st.drop M = dk at *
   generalize itemOf (op,p) dk = x at *
   go_region_with (first
    | (go_at_call 158; (with_reducible refine hitem.mono ?_); rintro e w2 ⟨rfl,hb2⟩; have hfind := FindC.uni HFD.out w2 G1 items1 x HIX.out (HFI.out w2 (qe HB1.out hb2)))
    | ((with_reducible refine hfind.mono ?_); rintro e w3 ⟨j3,f3,rfl,hw3⟩)
    | fail)
   all_goals
    have HB2 : Hid (Below wr.heap.size wr w2) := qe HB1.out hb2
    clear hitem hfind hb2 HB1 ct0 ct1 HIT HFI hE hcut hpre hidx hx0 hx1 hTk
    rcases hw3 with ⟨rfl,items2,hfd,G2,hS2,fr2⟩ | ⟨rfl,hfd,G2,hS2,fr2⟩
    ·have HSTEP2 : Hid (nS fd (ts.take (k + 1)) (items,[]) = some (items2,st.take M ++ [j3])) := by
      show _ = _
      rw [HNX.out,HSTEP.out,hfd]; rfl
     have hoff1 : ∀ q,(Value.slice av M cv).ownBlock = some q → ¬ G1 q := fun q hq => HN.out.off q (HOB.out ▸ hq)
     have HO3 : Hid (w3.ownsRow w.heap.size 3 1 (.slice av M cv) M (encM (st.take M))) := fr2.own (q1g HO.out HB2.out) hoff1
     have hlt1 := qR HO.out
     have HOFF3 : Hid (∀ q,(Value.slice av M cv).ownBlock = some q → ¬ G2 q) := fun q hq => fr2.out (hoff1 q hq) (Nat.lt_of_lt_of_le (hlt1 q hq) HB2.out.size)
     have HFR : Hid (Fr w w3 G G2) := HN.out.fr.trans' ((Fr.same HB2.out).trans' fr2)
     have HTK : Hid (TkSl w3 a len cap ts) := fr2.tks (HN.out.tk.up HB2.out) HN.out.ap
     have HAP : Hid (0 < len → ∀ x,a = some x → ¬ G2 x.block) := fun h x hx => by
      subst hx
      have := (HN.out.tk.up HB2.out).lt h
      exact fr2.out (HN.out.ap h x rfl) this
     have HS3 : Hid _ := hS2
     obtain ⟨l2,hl2'⟩ := HP.out.pre hfd
     have hj3 : j3 < items2.length := HP.out.lt hfd
     have HPRE : Hid (∃ l,items2 = items ++ l) := by
      obtain ⟨l,hl⟩ := HN.out.pre
      exact ⟨l ++ l2,by rw [show items2 = items1 ++ l2 from hl2',hl,List.append_assoc]⟩
     have HLL : Hid (∀ j ∈ st.take M ++ [j3],j < items2.length) := fun j hj => by
      rcases List.mem_append.1 hj with hj | hj
      ·have := HN.out.lt j (List.mem_of_mem_take hj)
       rw [show items2 = items1 ++ l2 from hl2',List.length_append]; omega
      ·simp at hj; omega
     have HTL : Hid ((st.take M).length = M) := by show _ = _; simp; omega
     have hz3 := fr2.size
     have hwz := HN.out.fr.size
     have hw2z := HB2.out.size
     clear hfd hS2 fr2 hoff1 hlt1 HNX HSTEP HOFF HN HJ HO HOB hl2' HIX HB2
     generalize st.take M = tk at *
     have hc4 : (w3.alloc (.cells #[.int .i64 (j3 : Int)] 3)).cell? ⟨w3.heap.size,0,none⟩ = some (.int .i64 (j3 : Int)) := qb (MapKept.heap_alloc w3 _).1 0
     have HO4 : Hid ((w3.alloc (.cells #[.int .i64 (j3 : Int)] 3)).ownsRow w.heap.size 3 1 (.slice av M cv) M (encM tk)) := World.ownsRow.alloc HO3.out _
     have hz4 : w.heap.size ≤ (w3.alloc (.cells #[.int .i64 (j3 : Int)] 3)).heap.size := by simp; omega
     go_wp2_with (at_builtin; refine qdf Tryz.underlying29 q4K rfl (by decide) rfl _ _ rfl w.heap.size _ M (encM tk) (.int .i64 (j3 : Int)) w3.heap.size rfl rfl HO4.out hc4 rfl (by omega) hz4 ?_)
     intro v4 w4 hown4 hgr4 hloc4
     have hbn := qd w3 (.cells #[.int .i64 (j3 : Int)] 3)
     have hge := q2z HO3.out
     have hG2 := (HLT.out HS3.out).1
     have hs4 := hgr4.size
     have hsn := hbn.size
     have HFR4 : Hid (Fr w w4 G G2) := ⟨hgr4.os.trans (hbn.os.trans HFR.out.os),hgr4.tape.trans (hbn.tape.trans HFR.out.tape),hgr4.output.trans (hbn.output.trans HFR.out.output),by omega,fun q hq hg => (hgr4.block q (by omega) (fun e => by have := hge q e.symm; omega)).trans ((hbn.block q (by omega)).trans (HFR.out.keep q hq hg)),HFR.out.foot⟩
     have HNEW : Hid (NumSt S fd w w4 G G2 items items2 a len cap ts v4 (tk ++ [j3]) (k + 1)) := by
      refine ⟨HFAR.out HS3.out fun q hq => (hgr4.block q (by have := hG2 q hq; omega) (fun e => HOFF3.out q e.symm hq)).trans (hbn.block q (hG2 q hq)),HFR4.out,HFR4.out.tks HT0.out HA0.out,HAP.out,?_,fun q hq hg => ?_,HSTEP2.out,HLL.out,HPRE.out,?_⟩
      ·rw [List.length_append,HTL.out]
       unfold encM at hown4 ⊢
       rw [List.map_append]; exact hown4
      ·rcases hloc4 with e | e
       ·exact HOFF3.out q (e ▸ hq) hg
       ·rw [e] at hq; injection hq with hq; have := hG2 q hg; omega
      ·rw [List.length_append,HTL.out]; simp; omega
     clear hown4 hgr4 hloc4 hc4 HO4 HO3 hbn hge hG2
     go_wp2
     go_roundw
     case rel => exact ⟨k + 1,by omega,by go_num,j3,true,rfl,rfl,G2,items2,tk ++ [j3],HNEW,fun _ => ⟨rfl,tk,rfl⟩⟩
     case measure => simp [intOf] <;> omega
    ·have HNO : Hid (nS fd ts (items,[]) = none) := HOFF.out (by rw [HSTEP.out,hfd]; rfl)
     have HFR : Hid (Fr w w3 G G2) := HN.out.fr.trans' ((Fr.same HB2.out).trans' fr2)
     have HS3 : Hid _ := hS2
     have HPRE : Hid _ := HN.out.pre
     have HSO : Hid _ := HN.out.ns
     clear hfd hS2 fr2 HNX HSTEP HOFF HN HJ HO HOB HIX HB2
     go_wp2
     go_ret2
     exact ⟨G2,items1,HS3.out,HFR.out,HPRE.out,⟨_,_,HSO.out⟩,Or.inr ⟨HNO.out,rfl⟩⟩
  ·obtain rfl : k = len := by omega
   obtain ⟨rfl,st',rfl⟩ := HJ.out hl
   have HYES : Hid (nS fd ts (items,[]) = some (items1,st' ++ [j])) := by
    have := HN.out.ns
    rw [List.take_of_length_le (by have := HLEN.out; omega)] at this
    exact this
   have HFR : Hid _ := HN.out.fr
   have HS3 : Hid _ := HN.out.s
   have HPRE : Hid _ := HN.out.pre
   have HSO : Hid _ := HN.out.ns
   clear HN HJ hfw
   go_wp2
   go_ret2
   exact ⟨G1,items1,HS3.out,HFR.out,HPRE.out,⟨_,_,HSO.out⟩,Or.inl ⟨j,st',HYES.out,rfl⟩⟩
def TabT (w : World) (F : Nat → Prop) (t : Nat) (items : List It) : Prop := TabI w F t items ∧ TabIs items
theorem qen : ∀ T : Tr,0 < T.flat.length
 | .leaf _ => by simp [Tr.flat]
 | .un _ _ => by simp [Tr.flat]
 | .bin _ _ _ => by simp [Tr.flat]; omega
structure Chkd (ts : List Tk) : Prop where
 pos : 0 < ts.length
 few : fewL false ts = true
 good : ∃ T,GGood ts T
theorem chkd {ts : List Tk} (h : chkE ts = 0) : Chkd ts := by
 obtain ⟨hl,hk⟩ := q2K.1 h
 have hf := ((q3L ts).1 hk).1
 obtain ⟨T,hW,_,_,rfl⟩ := hk
 exact ⟨qen T,hf,T,ggood hW hl⟩
theorem qf3 {w w' : World} {F : Nat → Prop} {t : Nat} {items : List It} (h : TabI w F t items) (hb : Below (w.alloc (.cells #[tbV t] 178)).heap.size (w.alloc (.cells #[tbV t] 178)) w') : TabB t w.heap.size w' (fun k => F k ∨ k = w.heap.size) items := by
 have hb1 := qd w (.cells #[tbV t] 178)
 refine ⟨F,h.up (qe hb1 hb),(hb.block _ (by simp)).trans (MapKept.heap_alloc w _).1,fun hf => ?_,fun k => Iff.rfl⟩
 have := h.lt _ hf
 omega
theorem qbs {w w1 w2 : World} {F G' : Nat → Prop} {t : Nat} {items : List It} (hb : Below w.heap.size w w1) (hB : TabB t w.heap.size w2 G' items) (fr : Fr w1 w2 (fun k => F k ∨ k = w.heap.size) G') : ∃ F',TabI w2 F' t items ∧ Fr w w2 F F' := by
 obtain ⟨F',h1,_,_,h4⟩ := hB
 refine ⟨F',h1,fr.os.trans hb.os,fr.tape.trans hb.tape,fr.output.trans hb.output,Nat.le_trans hb.size fr.size,fun k hk hf => (fr.keep k (Nat.lt_of_lt_of_le hk hb.size) (fun h => ?_)).trans (hb.block k hk),fun k hk => ?_⟩
 ·rcases h with h | h
  ·exact hf h
  ·omega
 ·rcases fr.foot k ((h4 k).2 (Or.inl hk)) with (h | h) | h
  ·exact Or.inl h
  ·exact Or.inr (by omega)
  ·exact Or.inr (Nat.le_trans hb.size h)
theorem q7L : EntersT 145 := fun _ _ => rfl
theorem qez {items items' : List It} {ts : List Tk} {st : List Nat} {j : Nat} (hl : items.length ≤ 4096) (hc : chkE ts = 0) (h : nS kpF ts (items,[]) = some (items',st ++ [j])) : keepE items ts = 0 ∧ keepI items ts = items' ∧ keepN items ts = j := by
 rw [q8y ts (items,[]) hl] at h
 by_cases c : (tkS ts (items,[])).1.length ≤ 4096
 ·rw [if_pos c] at h
  injection h with h
  have e1 : kI items ts = items' := by unfold kI; rw [h]
  have e2 : kN items ts = j := by unfold kN; rw [h]; simp
  have e0 : keepE items ts = 0 := by
   unfold keepE
   rw [if_neg (by omega),if_neg (by unfold kI; omega)]
  exact ⟨e0,by unfold keepI; rw [if_pos e0,e1],by unfold keepN; rw [if_pos e0,e2]⟩
 ·rw [if_neg c] at h; cases h
theorem qfF {items : List It} {ts : List Tk} (hl : items.length ≤ 4096) (hc : chkE ts = 0) (h : nS kpF ts (items,[]) = none) : keepE items ts = 3 ∧ keepI items ts = items ∧ keepN items ts = 0 := by
 rw [q8y ts (items,[]) hl] at h
 by_cases c : (tkS ts (items,[])).1.length ≤ 4096
 ·rw [if_pos c] at h; cases h
 ·have e0 : keepE items ts = 3 := by
   unfold keepE
   rw [if_neg (by omega),if_pos (by unfold kI; omega)]
  exact ⟨e0,by unfold keepI; rw [if_neg (by omega)],by unfold keepN; rw [if_neg (by omega)]⟩
theorem qb8 {items : List It} {ts : List Tk} (hc : chkE ts ≠ 0) : keepE items ts = chkE ts ∧ keepI items ts = items ∧ keepN items ts = 0 := by
 have e0 : keepE items ts = chkE ts := by unfold keepE; rw [if_pos hc]
 exact ⟨e0,by unfold keepI; rw [if_neg (by omega)],by unfold keepN; rw [if_neg (by omega)]⟩
theorem Fr.self {w w' : World} {F : Nat → Prop} {t : Nat} {items : List It} (h : TabT w F t items) (hb : Below w.heap.size w w') : ∃ F',TabT w' F' t items ∧ Fr w w' F F' := ⟨F,⟨h.1.up hb,h.2⟩,Fr.same hb⟩
theorem q45 {w : World} {F : Nat → Prop} {t : Nat} {items : List It} (a : Option Addr) (len cap : Nat) (ts : List Tk) (h : TabT w F t items) (hT : TkSl w a len cap ts) (hA : 0 < len → ∀ x,a = some x → ¬ F x.block) :
  Calls Tryz.prog 119 #[.pointer (some ⟨t,0,none⟩),.slice a len cap] w fun e w' => e = .returned (.tuple #[.int .i64 (keepN items ts : Int),.int .i64 (keepE items ts : Int)]) ∧ ∃ F',TabT w' F' t (keepI items ts) ∧ Fr w w' F F' := by
 have hb1 := qd w (.cells #[tbV t] 178)
 obtain ⟨aa,ca,mb,hr,_⟩ := (h.1.up hb1).read
 have hm := q33 hr
 have HI : Hid _ := h
 have hck := q3E a len cap ts (w.alloc (.cells #[tbV t] 178)) (hT.up hb1)
 have cb : ∀ w',Below (w.alloc (.cells #[tbV t] 178)).heap.size (w.alloc (.cells #[tbV t] 178)) w' → w'.cell? ⟨w.heap.size,0,none⟩ = some (.pointer (some ⟨t,0,none⟩)) := fun w' hb => qn (qb (MapKept.heap_alloc w _).1 0) hb
 have cb0 := cb _ (Below.refl _ _)
 by_cases hc : chkE ts = 0
 ·have HC : Hid _ := hc
  have hck' := chkd hc
  have HCK : Hid _ := hck'
  rw [hc] at hck
  have HT : Hid _ := hT
  have HA : Hid _ := hA
  have HCB : Hid _ := cb
  clear hT hA h hr cb hc hck' hb1
  unfold tbV at hm hck cb0 HCB
  go_enter Tryz.func119,Tryz.ntmps119
  go_wp2_with fail
  refine hm.mono ?_
  rintro e w1 ⟨rfl,hw1⟩
  obtain rfl := hw1.symm
  go_wp2_with fail
  refine hck.mono ?_
  rintro e w2 ⟨rfl,hb2⟩
  have HB2 : Hid (Below w.heap.size w w2) := qe (qd w _) hb2
  have cb2 := HCB.out w2 hb2
  obtain ⟨a2,k2,m2,hr2,_⟩ := (HI.out.1.up HB2.out).read
  have c1 := hr2.c1
  obtain ⟨T,hgood⟩ := HCK.out.good
  have hnum := q6c (TabB t w.heap.size) kpF 145 w.heap.size q7L (q79 t w.heap.size) qgy TabB.lt TabB.far w2 (fun k => F k ∨ k = w.heap.size) items a len cap ts T (qf3 HI.out.1 hb2) (HT.out.up HB2.out) (fun hp x hx hg => by
   rcases hg with hg | hg
   ·exact HA.out hp x hx hg
   ·subst hx; have := HT.out.lt hp; omega) (by have := HCK.out.pos; have := HT.out.hlen; omega) hgood HCK.out.few
  clear hm hck hr2 hb2 cb0 HCB hgood
  go_wp2_with fail
  refine hnum.mono ?_
  rintro e w3 ⟨G3,items3,hB3,fr3,⟨l3,hl3⟩,⟨q3,st3,hq3⟩,(⟨j,st,hns,rfl⟩ | ⟨hns,rfl⟩)⟩
  ·obtain ⟨k1,k2,k3⟩ := qez HI.out.1.few HC.out hns
   have HK : Hid _ := And.intro k1 (And.intro k2 k3)
   obtain ⟨F3,hI3,hf3⟩ := qbs HB2.out hB3 fr3
   have HF : Hid _ := And.intro hI3 hf3
   have HIS : Hid (TabIs (keepI items ts)) := (kept HI.out.2 k1).is
   clear hnum hB3 fr3 hl3 hq3 hns k1 k2 k3 hI3 hf3 c1 cb2
   go_wp2
   go_ret2
   rw [HK.out.1,HK.out.2.2]
   exact ⟨rfl,F3,⟨by rw [HK.out.2.1]; exact HF.out.1,HIS.out⟩,HF.out.2⟩
  ·have HK : Hid _ := qfF HI.out.1.few HC.out hns
   obtain ⟨F3,hI3,hf3⟩ := qbs HB2.out hB3 fr3
   have HF : Hid _ := hf3
   have cb3 : w3.cell? ⟨w.heap.size,0,none⟩ = some (.pointer (some ⟨t,0,none⟩)) := by
    obtain ⟨F',_,h2,_⟩ := hB3
    exact qb h2 0
   have hcut := q9Z hI3 items.length (by rw [hl3]; simp)
   rw [show items3.take items.length = items by rw [hl3]; simp] at hcut
   clear hnum hB3 fr3 hl3 hq3 hns hI3 hf3 c1 cb2
   go_wp2_with fail
   refine hcut.mono ?_
   rintro e w4 ⟨rfl,hI4,fr4⟩
   have HI4 : Hid _ := And.intro hI4 fr4
   clear hcut hI4 fr4
   go_wp2
   go_ret2
   rw [HK.out.1,HK.out.2.2,HK.out.2.1]
   exact ⟨rfl,F3,⟨HI4.out.1,HI.out.2⟩,HF.out.trans' HI4.out.2⟩
 ·have HK : Hid _ := qb8 (items := items) hc
  have hc' : ¬ (chkE ts : Int) = 0 := by omega
  have hc2 : ((chkE ts : Int) == 0) = false := by rw [beq_eq_false_iff_ne]; exact hc'
  clear hT hA h hr cb hb1 hc
  unfold tbV at hm hck cb0
  generalize chkE ts = E at *
  go_enter Tryz.func119,Tryz.ntmps119
  go_wp2_with fail
  refine hm.mono ?_
  rintro e w1 ⟨rfl,hw1⟩
  obtain rfl := hw1.symm
  go_wp2_with fail
  refine hck.mono ?_
  rintro e w2 ⟨rfl,hb2⟩
  have HB2 : Hid (Below w.heap.size w w2) := qe (qd w _) hb2
  clear hm hck hb2 cb0
  go_wp2
  go_ret2
  rw [HK.out.1,HK.out.2.2,HK.out.2.1]
  exact ⟨rfl,Fr.self HI.out HB2.out⟩
structure MidG (w w6 : World) (g n g5 L c5 mb : Nat) (N : List Gd) (x : Gd) (v : Value) : Prop where
 blk : w6.heap[g]? = some (stO g n (.slice (some ⟨g5,0,none⟩) (L + 1) c5) mb)
 row : w6.ownsRow 0 57 3 (.slice (some ⟨g5,0,none⟩) (L + 1) c5) (L + 1) (encGd (N ++ [x]))
 num : NumG w6 mb L (posG N)
 os : w6.os = w.os
 tape : w6.tape = w.tape
 output : w6.output = w.output
 size : w.heap.size ≤ w6.heap.size
 keep : ∀ k,k < w.heap.size → k ≠ g → v.ownBlock ≠ some k → w6.heap[k]? = w.heap[k]?
 loc : v.ownBlock = some g5 ∨ w.heap.size ≤ g5
theorem qfR {w w5 : World} {g n cap mb : Nat} {a : Option Addr} {N : List Gd} (h : StRG w g n a N.length cap mb N) (x : Gd) {g5 c5 : Nat}
  (hg : (w.alloc (ndO x)).drew.grownBy w5 (Value.slice a N.length cap).ownBlock) (ho : w5.ownsRow 0 57 3 (.slice (some ⟨g5,0,none⟩) (N.length + 1) c5) (N.length + 1) (encGd (N ++ [x])))
  (hl : (Value.slice a N.length cap).ownBlock = some g5 ∨ g5 = (w.alloc (ndO x)).drew.heap.size) :
  w5.heap[g]? = some (stO g n (.slice a N.length cap) mb) ∧ MidG w (w5.setCell ⟨g,2,none⟩ (.slice (some ⟨g5,0,none⟩) (N.length + 1) c5)) g n g5 N.length c5 mb N x (.slice a N.length cap) := by
 have hb1 := qd w (ndO x)
 have hgl := (Array.getElem?_eq_some_iff.1 h.blk).1
 have hne : (Value.slice a N.length cap).ownBlock ≠ some g := q4a h.row h.blk (fun cs e => by injection e with _ e _; exact absurd e (by decide))
 obtain ⟨es,cl,hmap⟩ := h.num.isMap
 have hnm : (Value.slice a N.length cap).ownBlock ≠ some mb := q4a h.row hmap (fun cs e => by cases e)
 have hmt : mb ≠ g := fun e => by rw [e,h.blk] at hmap; cases hmap
 have hz : (w.alloc (ndO x)).drew.heap.size = w.heap.size + 1 := by simp
 have st : ∀ k,k < w.heap.size → (Value.slice a N.length cap).ownBlock ≠ some k → w5.heap[k]? = w.heap[k]? := fun k hk hn => (hg.block k (by omega) (fun e => hn e.symm)).trans (hb1.block k hk)
 have h5 := (st g hgl hne).trans h.blk
 have hs5 := hg.size
 refine ⟨h5,⟨?_,?_,?_,hg.os,hg.tape,hg.output,?_,fun k hk hkt hkn => ?_,?_⟩⟩
 ·unfold stO at h5 ⊢
  rw [heap_setCell_same w5 g 2 _ _ _ h5]; rfl
 ·refine q3w ho fun k hk => Below.heap_setCell _ _ _ _ ?_
  dsimp only
  rintro rfl
  simp [Value.ownBlock] at hk
  subst hk
  rcases hl with e | e
  ·exact hne e
  ·omega
 ·exact h.num.far ((Below.heap_setCell _ _ _ _ (by dsimp only; exact hmt)).trans (st mb h.num.lt hnm))
 ·simp; omega
 ·exact (Below.heap_setCell _ _ _ _ (by dsimp only; exact hkt)).trans (st k hk hkn)
 ·rcases hl with e | e
  ·exact .inl e
  ·right; omega
theorem qdZ {w w6 w7 : World} {F : Nat → Prop} {g n cap mb : Nat} {a : Option Addr} {N : List Gd} (h : StG w F g n N) (hF : ∀ k,F k ↔ (k = g ∨ k = mb ∨ (Value.slice a N.length cap).ownBlock = some k)) {x : Gd} (hx : GdOk x) (hn : x ∉ N)
  {g5 c5 : Nat} (m : MidG w w6 g n g5 N.length c5 mb N x (.slice a N.length cap)) (hn7 : NumG w7 mb (N.length + 1) (fun y => if y = x then some N.length else posG N y)) (hg : w6.drew.grownBy w7 (some mb)) :
  ∃ F',StG w7 F' g n (N ++ [x]) ∧ Fr w w7 F F' := by
 have hsz := m.size
 have hs7 := hg.size
 have hs7' : w6.heap.size ≤ w7.heap.size := hs7
 obtain ⟨es,cl,hmap⟩ := m.num.isMap
 have hmt : g ≠ mb := fun e => by rw [← e,m.blk] at hmap; cases hmap
 have hnm : (Value.slice (some ⟨g5,0,none⟩) (N.length + 1) c5).ownBlock ≠ some mb := q4a m.row hmap (fun cs e => by cases e)
 have hgl : g < w6.heap.size := (Array.getElem?_eq_some_iff.1 m.blk).1
 have st : ∀ k,k < w6.heap.size → k ≠ mb → w7.heap[k]? = w6.heap[k]? := fun k hk hne => hg.block k hk (fun e => hne (by injection e))
 refine ⟨fun k => k = g ∨ k = mb ∨ (Value.slice (some ⟨g5,0,none⟩) (N.length + 1) c5).ownBlock = some k,⟨?_,?_,.slice (some ⟨g5,0,none⟩) (N.length + 1) c5,mb,(st g hgl hmt).trans m.blk,?_,?_,fun k => Iff.rfl⟩,?_⟩
 ·exact List.nodup_append.2 ⟨h.nd,by simp,fun a ha b hb => by simp at hb; subst hb; exact fun e => hn (e ▸ ha)⟩
 ·intro y hy
  rcases List.mem_append.1 hy with hy | hy
  ·exact h.ok y hy
  ·simp at hy; subst hy; exact hx
 ·rw [List.length_append]
  exact q3w m.row fun k hk => st k (m.row.lt k hk).2 (fun e => hnm (e ▸ hk))
 ·rw [List.length_append]
  exact hn7.alike fun y _ => q96 hn y
 ·refine ⟨hg.os.trans m.os,hg.tape.trans m.tape,hg.output.trans m.output,by omega,fun k hk hf => ?_,fun k hk => ?_⟩
  ·have hf' := fun e => hf ((hF k).2 e)
   exact (st k (by omega) (fun e => hf' (Or.inr (Or.inl e)))).trans (m.keep k hk (fun e => hf' (Or.inl e)) (fun e => hf' (Or.inr (Or.inr e))))
  ·rcases hk with rfl | rfl | hk
   ·exact Or.inl ((hF k).2 (Or.inl rfl))
   ·exact Or.inl ((hF k).2 (Or.inr (Or.inl rfl)))
   ·simp [Value.ownBlock] at hk
    subst hk
    rcases m.loc with e | e
    ·exact Or.inl ((hF _).2 (Or.inr (Or.inr e)))
    ·exact Or.inr e
def PlR (g n : Nat) (N : List Gd) (x : Gd) (F : Nat → Prop) (w : World) (e : Ending) (w' : World) : Prop := e = .returned (.int .i64 (N.idxOf x : Int)) ∧ ∃ F',StG w' F' g n (if x ∈ N then N else N ++ [x]) ∧ Fr w w' F F'
theorem q6M {w : World} {F : Nat → Prop} {g n : Nat} {N : List Gd} (h : StG w F g n N) (x : Gd) (hx : GdOk x) (hN : N.length ≤ 1000000) :
  Calls Tryz.prog 136 #[.pointer (some ⟨g,0,none⟩),ndV x] w (PlR g n N x F w) := by
 obtain ⟨a,cap,mb,hr,hF⟩ := h.read
 have hb1 := qd w (ndO x)
 have hr1 := hr.up hb1
 have c3 := hr1.c3
 have hlk := fun m => (show NumG ((w.alloc (ndO x)).drewN m) mb N.length (posG N) from hr1.num).look hx
 have HB1 : Hid _ := hb1
 have HR : Hid _ := hr
 have HF : Hid _ := hF
 have HI : Hid _ := h
 have HX : Hid _ := hx
 have hbx := (MapKept.heap_alloc w (ndO x)).1
 have HBX : Hid _ := hbx
 by_cases hm : x ∈ N
 ·have HE : Hid (∀ nq,PlR g n N x F w (.returned (.int .i64 (N.idxOf x : Int))) ((w.alloc (ndO x)).drewN nq)) := fun nq => by
   refine ⟨rfl,F,?_,Fr.ofBelow (below_drewN hb1 nq)⟩
   rw [if_pos hm]
   exact h.up (below_drewN hb1 nq)
  rw [q1P hm] at hlk
  generalize PlR g n N x F w = Q at *
  generalize N.idxOf x = j at *
  clear h hr hr1 hF hx hb1 hbx hm HB1 HR HF HI HX HBX
  obtain ⟨P,lo,hi⟩ := x
  unfold ndV at hlk
  unfold ndO at c3 HE hlk
  dsimp only [Option.getD,Option.isSome] at c3 HE hlk
  unfold ndV
  dsimp only
  go_enter Tryz.func136,Tryz.ntmps136
  go_upto_region 15 with fail
  go_quiet (fail)
  go_wp2
  exact HE.out _
 ·have HNM : Hid _ := hm
  have HQ0 : Hid (∀ e w',(e = .returned (.int .i64 (N.length : Int)) ∧ ∃ F',StG w' F' g n (N ++ [x]) ∧ Fr w w' F F') → PlR g n N x F w e w') := fun e w' h => by
   unfold PlR
   rw [q8m hm,if_neg hm]; exact h
  rw [q1C hm] at hlk
  generalize PlR g n N x F w = Q at *
  clear h hr hr1 hF hx hb1 hbx hm
  obtain ⟨P,lo,hi⟩ := x
  unfold ndV at hlk
  unfold ndO at c3 hlk HB1 HBX
  dsimp only [Option.getD,Option.isSome] at c3 hlk HB1 HBX
  unfold ndV
  dsimp only
  go_enter Tryz.func136,Tryz.ntmps136
  go_upto_region 15 with fail
  go_quiet (fail)
  have HBq : Hid _ := below_drewN HB1.out nq
  have hbq : ((w.alloc (.cells #[.int .i64 P,.int .i64 lo,.int .i64 hi] 57 (0,0))).drewN nq).heap[w.heap.size]? = some (.cells #[.int .i64 P,.int .i64 lo,.int .i64 hi] 57 (0,0)) := by simpa using HBX.out
  have HBXq : Hid _ := hbq
  clear hlk c3 hbq HB1 HBX
  generalize (w.alloc (.cells #[.int .i64 P,.int .i64 lo,.int .i64 hi] 57 (0,0))).drewN nq = w1 at *
  have hr1 := HR.out.up HBq.out
  have c2 := hr1.c2
  have b0 : w1.cell? ⟨w.heap.size,0,none⟩ = some (.int .i64 P) := qb HBXq.out 0
  have b1 : w1.cell? ⟨w.heap.size,1,none⟩ = some (.int .i64 lo) := qb HBXq.out 1
  have b2 : w1.cell? ⟨w.heap.size,2,none⟩ = some (.int .i64 hi) := qb HBXq.out 2
  have hO : (w1.alloc (.cells #[.int .i64 P,.int .i64 lo,.int .i64 hi] 57 (0,0))).drew.ownsRow 0 57 3 (.slice a N.length cap) N.length (encGd N) := World.ownsRow.alloc hr1.row _
  have hB : (w1.alloc (.cells #[.int .i64 P,.int .i64 lo,.int .i64 hi] 57 (0,0))).drew.heap[w1.heap.size]? = some (ndO (P,lo,hi)) := (MapKept.heap_alloc w1 _).1
  have c2b : (w1.alloc (.cells #[.int .i64 P,.int .i64 lo,.int .i64 hi] 57 (0,0))).cell? ⟨g,2,none⟩ = some (.slice a N.length cap) := qn c2 (qd w1 _)
  have HM : Hid _ := fun g5 c5 w5 q1 q2 q3 => qfR (w5 := w5) hr1 (P,lo,hi) (g5 := g5) (c5 := c5) q1 q2 q3
  have HNE : Hid ((Value.slice a N.length cap).ownBlock ≠ some w.heap.size) := fun e => by have := (HR.out.row.lt _ e).2; omega
  have HI1 : Hid _ := HI.out.up HBq.out
  unfold ndO at HM
  clear hr1
  generalize hL : N.length = L at *
  have HL : Hid (N.length = L) := hL
  clear hL
  go_upto_region 15 with fail
  go_region_law ((refine q9X rfl _ _ rfl 0 (.slice a L cap) L N (P,lo,hi) w1.heap.size rfl rfl hO hB (by omega) (Nat.zero_le _) ?_; intro g5 c5 w5 hown5 hgr5 hloc5; have m5 := HM.out g5 c5 w5 hgr5 hown5 hloc5; have c5' : w5.cell? ⟨g,2,none⟩ = some (.slice a L cap) := qb m5.1 2; have z5 : w5.frozen? ⟨g,2,none⟩ = false := frozen_of_row w5 _ 2 _ _ m5.1))
  all_goals
   have HM6 : Hid _ := m5.2
   clear hO hB c2 c2b b0 b1 b2 c5' z5 m5 hown5 hgr5 hloc5
   generalize w5.setCell ⟨g,2,none⟩ (.slice (some ⟨g5,0,none⟩) (L + 1) c5) = w6 at *
   have t3 : w6.cell? ⟨g,3,none⟩ = some (.map (some mb)) := qb HM6.out.blk 3
   have hbx6 := (HM6.out.keep w.heap.size (World.block_lt_of_cell? _ _ (qb HBXq.out 0)) (fun e => by have := HI.out.lt g ((HF.out g).2 (.inl rfl)); omega) HNE.out).trans HBXq.out
   have b0 : w6.cell? ⟨w.heap.size,0,none⟩ = some (.int .i64 P) := qb hbx6 0
   have b1 : w6.cell? ⟨w.heap.size,1,none⟩ = some (.int .i64 lo) := qb hbx6 1
   have b2 : w6.cell? ⟨w.heap.size,2,none⟩ = some (.int .i64 hi) := qb hbx6 2
   obtain ⟨w7,hrun,hn7,hg7⟩ := (show NumG w6.drew mb L (posG N) from HM6.out.num).put (by omega) (x := (P,lo,hi)) HX.out (q1C HNM.out) L (by omega)
   unfold ndV at hrun
   dsimp only at hrun
   have HN7 : Hid _ := hn7
   have HG7 : Hid _ := hg7
   clear hn7 hg7 hbx6
   go_upto_region 15 with fail
   go_region
   all_goals
    clear hrun t3 b0 b1 b2
    have HE : Hid (Q (.returned (.int .i64 (L : Int))) w7) := by
     have e := HL.out
     subst e
     obtain ⟨F',q1,q2⟩ := qdZ (x := (P,lo,hi)) HI1.out HF.out HX.out HNM.out HM6.out HN7.out HG7.out
     exact HQ0.out _ _ ⟨rfl,F',q1,(Fr.ofBelow HBq.out).trans q2⟩
    clear HQ0
    go_wp2
    exact HE.out
theorem q1V {P : Program} {e : TypeId} {s : Nat} (h : (P.info? e).map (·.size) = some s) (w : World) : (sizeOf e).run P w = .ok s w := by
 cases hq : P.info? e with
 | none => simp [hq] at h
 | some i => simp [hq] at h; simp [sizeOf,typeInfo,hq,h]
theorem qdk {P : Program} {T e : TypeId} {s : Nat} (hu : P.underlying T = some (.slice e)) (hs : (P.info? e).map (·.size) = some s) (a : Option Addr) (n cap lo : Nat) (hl : lo ≤ n) (hc : n ≤ cap) (hn : a = none → cap = 0) :
  ∃ a',(∀ w,(Instr.sliceAt T (.slice a n cap) (some (.int .i64 (lo : Int))) none none).run P w = .ok (.slice a' (n - lo) (cap - lo)) w) ∧ (a' = none → cap - lo = 0) ∧ (lo < n → ∀ x,a = some x → a' = some (x.add (lo * s))) := by
 cases a with
 | none =>
  have := hn rfl
  subst this
  obtain rfl : n = 0 := by omega
  obtain rfl : lo = 0 := by omega
  exact ⟨none,fun w => by simp [Instr.sliceAt,Instr.slice,run_underlying hu,q1V hs,go_sem],fun _ => rfl,fun hk => absurd hk (by omega)⟩
 | some x =>
  by_cases hz : cap = lo
  ·refine ⟨some x,fun w => ?_,(fun h => by cases h),fun hk => absurd hk (by omega)⟩
   have hz2 : cap - lo = 0 := by omega
   simp [Instr.sliceAt,Instr.slice,run_underlying hu,q1V hs,go_sem,hl,hz2]
   exact fun h => absurd hz h
  ·refine ⟨some (x.add (lo * s)),fun w => ?_,(fun h => by cases h),fun _ y hy => by injection hy with hy; rw [hy]⟩
   simp [Instr.sliceAt,Instr.slice,run_underlying hu,q1V hs,go_sem,hl]
   exact fun h => absurd h hz
theorem qgM {P : Program} {T e : TypeId} {s : Nat} (hu : P.underlying T = some (.slice e)) (hs : (P.info? e).map (·.size) = some s) (a : Option Addr) (n cap m : Nat) (hl : m ≤ n) (hc : n ≤ cap) (hn : a = none → cap = 0) (w : World) :
  (Instr.sliceAt T (.slice a n cap) none (some (.int .i64 (m : Int))) none).run P w = .ok (.slice a m cap) w := by
 cases a with
 | none =>
  have := hn rfl
  subst this
  obtain rfl : n = 0 := by omega
  obtain rfl : m = 0 := by omega
  simp [Instr.sliceAt,Instr.slice,run_underlying hu,q1V hs,go_sem]
 | some x =>
  have hmc : m ≤ cap := by omega
  simp [Instr.sliceAt,Instr.slice,run_underlying hu,q1V hs,go_sem,hmc]
theorem qeP {w : World} {base e size n m : Nat} {v : Value} {xs : List Value} (h : w.ownsRow base e size v n xs) (hm : m ≤ n) :
  ∃ a cap,v = .slice a n cap ∧ n ≤ cap ∧ cap ≤ maxLen ∧ (a = none → cap = 0) ∧ w.ownsRow base e size (.slice a m cap) m (xs.take (m * size)) ∧ (Value.slice a m cap).ownBlock = v.ownBlock := by
 obtain ⟨hl,h⟩ := h
 have hms : m * size ≤ n * size := Nat.mul_le_mul_right _ hm
 rcases h with ⟨rfl,rfl⟩ | ⟨g,cap,cur,rfl,hg,hcell,hnc,hcm,hsz,htk⟩
 ·obtain rfl : m = 0 := by omega
  exact ⟨none,0,rfl,Nat.le_refl _,Nat.zero_le _,fun _ => rfl,⟨by simp,Or.inl ⟨rfl,rfl⟩⟩,rfl⟩
 ·refine ⟨some ⟨g,0,none⟩,cap,rfl,hnc,hcm,fun h => (by cases h),⟨by simp; omega,Or.inr ⟨g,cap,cur,rfl,hg,hcell,by omega,hcm,hsz,?_⟩⟩,rfl⟩
  rw [← htk,List.take_take,Nat.min_eq_left hms]
theorem qcR (l : List Gd) (n : Nat) : (encGd l).take (n * 3) = encGd (l.take n) := by
 by_cases h : n ≤ l.length
 ·have e : encGd l = encGd (l.take n) ++ encGd (l.drop n) := by rw [← q3n,List.take_append_drop]
  have hl : (encGd (l.take n)).length = n * 3 := by rw [q2g,List.length_take,Nat.min_eq_left h]
  rw [e,← hl,List.take_left]
 ·rw [List.take_of_length_le (by rw [q2g]; omega),List.take_of_length_le (by omega)]
def MkRG (g m : Nat) (w : World) (e : Ending) (w' : World) : Prop := ∃ bx bn,e = .returned (.func (.func 134) #[] #[.pointer (some ⟨bx,0,none⟩),.pointer (some ⟨bn,0,none⟩)]) ∧ Below w.heap.size w w' ∧ w.heap.size ≤ bx ∧ w.heap.size ≤ bn ∧
 w'.heap[bx]? = some (.cells #[.pointer (some ⟨g,0,none⟩)] 75 (0,0)) ∧ w'.heap[bn]? = some (.cells #[.int .i64 (m : Int)] 3 (0,0))
theorem q7N {w : World} {F : Nat → Prop} {g n : Nat} {N : List Gd} (h : StG w F g n N) : Calls Tryz.prog 100 #[.pointer (some ⟨g,0,none⟩)] w (MkRG g N.length w) := by
 obtain ⟨a,cap,mb,hr,_⟩ := h.read
 have hb1 := qd w (.cells #[.pointer (some ⟨g,0,none⟩)] 75 (0,0))
 have c2 := (hr.up hb1).c2
 have e1 := (MapKept.heap_alloc w (.cells #[.pointer (some ⟨g,0,none⟩)] 75 (0,0))).1
 have cb := qb e1 0
 simp only [List.getElem?_toArray,List.getElem?_cons_zero] at cb
 have HE : Hid (MkRG g N.length w (.returned (.func (.func 134) #[] #[.pointer (some ⟨w.heap.size,0,none⟩),.pointer (some ⟨w.heap.size + 1,0,none⟩)])) ((w.alloc (.cells #[.pointer (some ⟨g,0,none⟩)] 75 (0,0))).alloc (.cells #[.int .i64 (N.length : Int)] 3 (0,0)))) := by
  have hb2 := qd (w.alloc (.cells #[.pointer (some ⟨g,0,none⟩)] 75 (0,0))) (.cells #[.int .i64 (N.length : Int)] 3 (0,0))
  refine ⟨_,_,rfl,qe hb1 hb2,Nat.le_refl _,Nat.le_succ _,(hb2.block _ (by simp)).trans e1,?_⟩
  have := (MapKept.heap_alloc (w.alloc (.cells #[.pointer (some ⟨g,0,none⟩)] 75 (0,0))) (.cells #[.int .i64 (N.length : Int)] 3 (0,0))).1
  simpa using this
 generalize MkRG g N.length w = Q at *
 clear h hr hb1 e1
 go_enter Tryz.func100,Tryz.ntmps100
 go_wp2
 exact HE.out
theorem qgH {w : World} {a : Option Addr} {n cap m : Nat} {N : List Gd} (h : w.ownsRow 0 57 3 (.slice a n cap) n (encGd N)) (hl : N.length = n) (hm : m ≤ n) :
  ∃ a',(∀ w',(Instr.sliceAt 30 (.slice a n cap) (some (.int .i64 (m : Int))) none none).run Tryz.prog w' = .ok (.slice a' (n - m) (cap - m)) w') ∧
   ∀ k (x : Gd),N[m + k]? = some x → ∃ g o,(∀ w',(Instr.indexAt 30 (.slice a' (n - m) (cap - m)) (.int .i64 (k : Int))).run Tryz.prog w' = .ok (.pointer (some ⟨g,o,none⟩)) w') ∧
    ∀ w' : World,w'.ownsRow 0 57 3 (.slice a n cap) n (encGd N) → w'.cell? ⟨g,o,none⟩ = some (.int .i64 x.1) ∧ w'.cell? ⟨g,o + 1,none⟩ = some (.int .i64 x.2.1) ∧ w'.cell? ⟨g,o + 2,none⟩ = some (.int .i64 x.2.2) := by
 rcases h.2 with ⟨e,e0⟩ | ⟨g,cap',cur,e,_,hcell,hnc,_,hsz,htk⟩
 ·injection e with e1 _ e3
  subst e1 e3 e0
  obtain ⟨a',h1,_⟩ := qdk (P := Tryz.prog) Tryz.underlying30 qG none 0 0 m hm (Nat.le_refl _) (fun _ => rfl)
  exact ⟨a',h1,fun k x hk => absurd (List.getElem?_eq_some_iff.1 hk).1 (by omega)⟩
 ·injection e with e1 _ e3
  subst e1 e3
  obtain ⟨a',h1,_,h3⟩ := qdk (P := Tryz.prog) Tryz.underlying30 qG (some ⟨g,0,none⟩) n cap m hm hnc (fun e => by cases e)
  refine ⟨a',h1,fun k x hx => ?_⟩
  obtain ⟨hk,rfl⟩ := List.getElem?_eq_some_iff.1 hx
  have ha := h3 (by omega) _ rfl
  rw [qi,Nat.zero_add] at ha
  subst ha
  have hkn : k < n - m := by omega
  refine ⟨g,3 * (m + k),fun w' => ?_,fun w' ho => ?_⟩
  ·simp [Instr.indexAt,run_underlying Tryz.underlying30,asIntOf,q5Z qG,hkn,Result.andThen,go_sem,qi,Nat.mul_comm]
  ·rcases ho.2 with ⟨e,e0⟩ | ⟨g',cap',cur',e,_,hcell',hnc',_,hsz',htk'⟩
   ·cases e
   ·injection e with e1 _ e3
    injection e1 with e1
    injection e1 with e1 _ _
    subst e1
    have key : ∀ j,j < n * 3 → w'.cell? ⟨g,j,none⟩ = (encGd N)[j]? := fun j hj => by
     rw [← htk',List.getElem?_take,if_pos hj]
     simp [World.cell?,hcell']
    obtain ⟨q0,q1,q2⟩ := q1d N (m + k) hk
    refine ⟨?_,?_,?_⟩
    ·rw [key _ (by omega)]; exact q0
    ·rw [key _ (by omega)]; exact q1
    ·rw [key _ (by omega)]; exact q2
theorem q77 {w : World} {ops : Array Oper} {o : Oper} {a : Act} {K : Act → World → Prop} {Q : Exit → Act → World → Prop} {E : Prop} (hw : Region.wanted o (yielded ops a.tmps) = true) (m x : Operand)
  (ho : o.op = .call { callee := .builtin .delete,args := #[m,x],argTypes := #[104,57] }) (b n : Nat) (f : Gd → Option Nat) (y : Gd) (hm : a.eval m = .map (some b)) (hx : a.eval x = ndV y)
  (h : NumG w b n f) (hy : GdOk y) (hf : (f y).isSome = true)
  (hK : ∀ w',NumG w' b (n - 1) (fun z => if z = y then none else f z) → w.grownBy w' (some b) → K (a.put o.dst (.tuple #[])) w') :
  if Region.wanted o (yielded ops a.tmps) = true then Oper.wp Tryz.prog o a w K Q else E := by
 rw [if_pos hw]
 obtain ⟨w',hr,h1,h2⟩ := h.drop hy hf o.type
 unfold Oper.wp execOp
 simp only [ho,resolve,invoke,builtin,Sem.run_bind,Sem.run_pure,Result.andThen_ok,List.map_toArray,List.map_cons,List.map_nil,hm,hx,hr]
 exact hK w' h1 h2
structure CutG (w wr : World) (mb L i n : Nat) (N : List Gd) : Prop where
 num : NumG wr mb (L - i) (outG N n i)
 gr : w.grownBy wr (some mb)
theorem CutG.blk {w wr : World} {g n mb i m cap : Nat} {a : Option Addr} {N : List Gd} (h : StRG w g n a N.length cap mb N) (c : CutG w wr mb N.length i m N) : wr.heap[g]? = some (stO g n (.slice a N.length cap) mb) ∧ wr.ownsRow 0 57 3 (.slice a N.length cap) N.length (encGd N) := by
 obtain ⟨es,cl,hmap⟩ := h.num.isMap
 have hmt : g ≠ mb := fun e => by rw [← e,h.blk] at hmap; cases hmap
 have hnm : (Value.slice a N.length cap).ownBlock ≠ some mb := q4a h.row hmap (fun cs e => by cases e)
 have st : ∀ k,k < w.heap.size → k ≠ mb → wr.heap[k]? = w.heap[k]? := fun k hk hne => c.gr.block k hk (fun e => hne (by injection e))
 exact ⟨(st g (Array.getElem?_eq_some_iff.1 h.blk).1 hmt).trans h.blk,q3w h.row fun k hk => st k (h.row.lt k hk).2 (fun e => hnm (e ▸ hk))⟩
theorem qeg {w wr : World} {F : Nat → Prop} {g n mb m cap : Nat} {a : Option Addr} {N : List Gd} (hI : StG w F g n N) (h : StRG w g n a N.length cap mb N) (hF : ∀ k,F k ↔ (k = g ∨ k = mb ∨ (Value.slice a N.length cap).ownBlock = some k)) (hn : m ≤ N.length)
  (c : CutG w wr mb N.length (N.length - m) m N) : StG (wr.setCell ⟨g,2,none⟩ (.slice a m cap)) F g n (N.take m) ∧ Fr w (wr.setCell ⟨g,2,none⟩ (.slice a m cap)) F F := by
 obtain ⟨h1,h2⟩ := c.blk h
 obtain ⟨es,cl,hmap⟩ := c.num.isMap
 have hmt : mb ≠ g := fun e => by rw [e,h1] at hmap; cases hmap
 have hne : (Value.slice a N.length cap).ownBlock ≠ some g := q4a h2 h1 (fun cs e => by injection e with _ e _; exact absurd e (by decide))
 have hlen : (N.take m).length = m := by simp; omega
 obtain ⟨a',cap',e,_,_,_,h4,h5⟩ := qeP h2 hn
 injection e with e1 _ e3
 subst e1 e3
 rw [qcR] at h4
 refine ⟨⟨hI.nd.sublist (List.take_sublist _ _),fun x hx => hI.ok x (List.mem_of_mem_take hx),.slice a m cap,mb,?_,?_,?_,fun k => ?_⟩,?_⟩
 ·unfold stO at h1 ⊢
  rw [heap_setCell_same wr g 2 _ _ _ h1]; rfl
 ·rw [hlen]
  refine q3w h4 fun k hk => Below.heap_setCell _ _ _ _ ?_
  dsimp only
  rintro rfl
  rw [h5] at hk; exact hne hk
 ·rw [hlen]
  have := c.num
  rw [show N.length - (N.length - m) = m by omega] at this
  exact (this.far (Below.heap_setCell _ _ _ _ (by dsimp only; exact hmt))).alike fun y _ => qeM hI.nd hn y
 ·rw [h5]; exact hF k
 ·refine ⟨c.gr.os,c.gr.tape,c.gr.output,by have := c.gr.size; simpa using this,fun k hk hf => ?_,fun _ hk => Or.inl hk⟩
  have hf' := fun e => hf ((hF k).2 e)
  exact (Below.heap_setCell _ _ _ _ (by dsimp only; exact fun e => hf' (Or.inl e))).trans (c.gr.block k hk (fun e => hf' (Or.inr (Or.inl (by injection e)))))
theorem q7S {w : World} {F : Nat → Prop} {g n : Nat} {N : List Gd} (h : StG w F g n N) (m : Nat) (hn : m ≤ N.length) (bx bn : Nat) (hN : N.length ≤ 1000000)
  (hbx : w.heap[bx]? = some (.cells #[.pointer (some ⟨g,0,none⟩)] 75 (0,0))) (hbn : w.heap[bn]? = some (.cells #[.int .i64 (m : Int)] 3 (0,0))) (hfx : ¬ F bx) (hfn : ¬ F bn) :
  Calls Tryz.prog 134 #[.pointer (some ⟨bx,0,none⟩),.pointer (some ⟨bn,0,none⟩)] w fun e w' => e = .returned (.tuple #[]) ∧ StG w' F g n (N.take m) ∧ Fr w w' F F := by
 obtain ⟨a,cap,mb,hr,hF⟩ := h.read
 have c2 := hr.c2
 have x0 : w.cell? ⟨bx,0,none⟩ = some (.pointer (some ⟨g,0,none⟩)) := qb hbx 0
 have n0 : w.cell? ⟨bn,0,none⟩ = some (.int .i64 (m : Int)) := qb hbn 0
 obtain ⟨a',hcut,hat⟩ := qgH hr.row rfl hn
 have hpre := fun w' => qgM (P := Tryz.prog) Tryz.underlying30 qG a N.length cap m hn hr.hc hr.nn w'
 have HR : Hid _ := hr
 have HF : Hid _ := hF
 have HI : Hid _ := h
 have HAT : Hid _ := hat
 have HC0 : Hid (CutG w w mb N.length 0 m N) := ⟨hr.num.alike fun y _ => q95 N m y,⟨rfl,rfl,rfl,Nat.le_refl _,fun _ _ _ => rfl⟩⟩
 have HC1 : Hid (∀ nq,CutG w (w.drewN nq) mb N.length 0 m N) := fun nq => ⟨(show NumG (w.drewN nq) mb N.length (posG N) from hr.num).alike fun y _ => q95 N m y,⟨rfl,rfl,rfl,Nat.le_refl _,fun _ _ _ => rfl⟩⟩
 have HN : Hid (m ≤ N.length) := hn
 have HBX : Hid (∀ wr,w.grownBy wr (some mb) → wr.cell? ⟨bx,0,none⟩ = some (.pointer (some ⟨g,0,none⟩)) ∧ wr.cell? ⟨bn,0,none⟩ = some (.int .i64 (m : Int))) := fun wr hg => by
  have h1 : bx ≠ mb := fun e => hfx ((hF bx).2 (.inr (.inl e)))
  have h2 : bn ≠ mb := fun e => hfn ((hF bn).2 (.inr (.inl e)))
  exact ⟨q4t x0 hg (fun e => h1 (by injection e)),q4t n0 hg (fun e => h2 (by injection e))⟩
 clear h hr hF hat hn hbx hbn hfx hfn
 generalize hL : N.length = L at *
 have HL : Hid (N.length = L) := hL
 clear hL
 go_enter Tryz.func134,Tryz.ntmps134
 go_upto_region 15 with fail
 go_quiet (fail)
 have HC2 : Hid _ := HC1.out nq
 clear HC1
 generalize w.drewN nq = w0 at *
 go_wp2
 go_loopw [11] (fun i wr => ∃ k : Nat,k ≤ L - m ∧ i = .int .i64 k ∧ Hid (CutG w wr mb L k m N)) (fun i _ => (L - m) - (intOf i).toNat)
 case atStart => exact ⟨0,Nat.zero_le _,rfl,HC2⟩
 case round =>
  obtain ⟨k,hk,rfl,HC⟩ := hrel
  clear HC0 HC2 c2 x0 n0
  by_cases hlt : k < L - m
  ·have hkl : m + k < N.length := by have := HL.out; omega
   have hx : N[m + k]? = some N[m + k] := List.getElem?_eq_getElem hkl
   have HX : Hid (GdOk N[m + k]) := HI.out.ok _ (List.getElem_mem hkl)
   have HTH : Hid ((outG N m k N[m + k]).isSome = true) := qd2 HI.out.nd hx
   have HNX : Hid (∀ y,(if y = N[m + k] then none else outG N m k y) = outG N m (k + 1) y) := fun y => qdN HI.out.nd hx y
   obtain ⟨g1,o1,hio,hcs⟩ := HAT.out k _ hx
   have HB : Hid _ := (show CutG w wr mb N.length k m N by rw [HL.out]; exact HC.out).blk (by rw [HL.out]; exact HR.out)
   rw [HL.out] at HB
   obtain ⟨q0,q1,q2⟩ := hcs wr HB.out.2
   obtain ⟨x0,_⟩ := HBX.out wr HC.out.gr
   generalize N[m + k] = x at *
   obtain ⟨P,lo,hi⟩ := x
   dsimp only at q0 q1 q2
   clear hx hkl hcs
   have hb1 := qd wr (.cells #[.int .i64 P,.int .i64 lo,.int .i64 hi] 57)
   have c3 : (wr.alloc (.cells #[.int .i64 P,.int .i64 lo,.int .i64 hi] 57)).cell? ⟨g,3,none⟩ = some (.map (some mb)) := qn (qb HB.out.1 3) hb1
   have x0b := qn x0 hb1
   have hnum : NumG (wr.alloc (.cells #[.int .i64 P,.int .i64 lo,.int .i64 hi] 57)).drew mb (L - k) (outG N m k) := HC.out.num.far (hb1.block mb HC.out.num.lt)
   have HGR : Hid (w.grownBy (wr.alloc (.cells #[.int .i64 P,.int .i64 lo,.int .i64 hi] 57)).drew (some mb)) := ⟨HC.out.gr.os,HC.out.gr.tape,HC.out.gr.output,by have := HC.out.gr.size; simp; omega,fun j hj hne => (hb1.block j (by have := HC.out.gr.size; omega)).trans (HC.out.gr.block j hj hne)⟩
   clear hb1 HB HC
   go_wp2
   go_upto_region 15 with fail
   go_region_law ((refine q77 rfl _ _ rfl mb (L - k) (outG N m k) (P,lo,hi) rfl rfl hnum HX.out HTH.out ?_; intro w6 hn6 hg6))
   all_goals
    have HC6 : Hid (CutG w w6 mb L (k + 1) m N) := by
     refine ⟨?_,⟨hg6.os.trans HGR.out.os,hg6.tape.trans HGR.out.tape,hg6.output.trans HGR.out.output,Nat.le_trans HGR.out.size hg6.size,fun j hj hne => (hg6.block j (Nat.lt_of_lt_of_le hj HGR.out.size) hne).trans (HGR.out.block j hj hne)⟩⟩
     rw [show L - (k + 1) = L - k - 1 by omega]
     exact hn6.alike fun y _ => HNX.out y
    clear hnum c3 x0b hn6 hg6 HGR
    go_wp2
    go_roundw
    case rel => exact ⟨k + 1,by omega,by go_num,HC6⟩
    case measure => simp [intOf] <;> omega
  ·obtain rfl : k = L - m := by omega
   have HC' : Hid (CutG w wr mb N.length (N.length - m) m N) := by show CutG _ _ _ _ _ _ _; rw [HL.out]; exact HC.out
   have HR' : Hid (StRG w g n a N.length cap mb N) := by show StRG _ _ _ _ _ _ _ _; rw [HL.out]; exact HR.out
   have hb := HC'.out.blk HR'.out
   rw [HL.out] at hb
   obtain ⟨x0,n0⟩ := HBX.out wr HC.out.gr
   have c2 : wr.cell? ⟨g,2,none⟩ = some (.slice a L cap) := qb hb.1 2
   have z2 : wr.frozen? ⟨g,2,none⟩ = false := frozen_of_row wr _ 2 _ _ hb.1
   have HFIN : Hid _ := qeg HI.out HR'.out (by rw [HL.out]; exact HF.out) (by rw [HL.out]; exact HN.out) HC'.out
   clear hb HC'
   go_upto_region 15 with fail
   go_region
   all_goals
    clear hcut hpre x0 n0 c2 z2 HBX HAT
    go_wp2
    go_end0
    exact ⟨rfl,HFIN.out.1.up (Below.refl _ _).drew,HFIN.out.2.trans (Fr.ofBelow (Below.refl _ _).drew)⟩
end Go.Proofs.YtailhklbmenaoaaGreatDoor
