/- Texts of the proof, put together: what it uses. -/
import Derived.Deep.DeepCutAuto
import Derived.OwnWalk
import Derived.Deep.QuietTactic
import Derived.BigQuiet
import Derived.Test.YtailhklbmenaoaaGreatDoorZ01
import Derived.Test.YtailhklbmenaoaaGreatDoorZ02
import Derived.Test.YtailhklbmenaoaaGreatDoorZ07
import Derived.Test.YtailhklbmenaoaaGreatDoorZ10
import Derived.Test.YtailhklbmenaoaaGreatDoorZ13
set_option maxRecDepth 100000
set_option maxHeartbeats 16000000
namespace Go.Proofs.YtailhklbmenaoaaGreatDoor
open Go.RowKit Go.Maps
def tokOf (z : Int) : Tk := if z < 100 then (2,z.toNat) else ((z - 100).toNat,0)
theorem qf8 {z : Int} (h0 : 0 ≤ z) (h1 : z < 356) : (tokOf z).1 < 256 ∧ (tokOf z).2 < 256 := by
 unfold tokOf; split
 ·exact ⟨by dsimp only; omega,by dsimp only; omega⟩
 ·exact ⟨by dsimp only; omega,by dsimp only; omega⟩
theorem qbR (op : Nat) (w : World) (h : op < 256) :
  Calls Tryz.prog 41 #[.int .u8 (op : Int)] w fun e w' => e = .returned (.int .i64 (100 + (op : Int))) ∧ w' = w := by
 have h1 : IntKind.i64.wrap (op : Int) = (op : Int) := by rw [IntKind.wrap_i64]; omega
 have h2 : IntKind.i64.wrap (100 + (op : Int)) = 100 + (op : Int) := by rw [IntKind.wrap_i64]; omega
 go_enter Tryz.func41,Tryz.ntmps41
 go_wp2
 go_ret
 exact ⟨rfl,rfl⟩
theorem qcK (a : Option Addr) (len cap : Nat) (zs : List Int) (w : World) (hS : IntSl Tryz.prog 29 .i64 w a len cap zs) (hz : ∀ z ∈ zs,0 ≤ z ∧ z < 356) (hl : len ≤ 1000) :
  Calls Tryz.prog 40 #[.slice a len cap] w fun e w' => ∃ v,e = .returned v ∧ w'.ownsRow w.heap.size 90 2 v (zs.map tokOf).length (encT (zs.map tokOf)) ∧ Below w.heap.size w w' := by
 have hlen := hS.hlen
 go_enter Tryz.func40,Tryz.ntmps40
 go_wp2
 go_loopw [3,4] (fun v j wr => ∃ k : Nat,k ≤ len ∧ j = .int .i64 k ∧ Hid (wr.ownsRow w.heap.size 90 2 v ((zs.take k).map tokOf).length (encT ((zs.take k).map tokOf))) ∧ Hid (Below w.heap.size w wr)) (fun _ j _ => len - (intOf j).toNat)
 case atStart => exact ⟨0,Nat.zero_le _,rfl,⟨rfl,Or.inl ⟨rfl,rfl⟩⟩,Below.refl _ _⟩
 case round =>
  obtain ⟨k,hk,rfl,HO,hbk⟩ := hrel
  by_cases hlt : k < len
  ·have hkl : k < zs.length := by omega
   have hSk := hS.up hbk.out
   have hidx := fun w' => hSk.idx len k w' hlt (Nat.le_refl _)
   have hc := hSk.cell k hlt
   have hg : zs.getD k 0 = zs[k] := by simp [List.getD_eq_getElem?_getD,List.getElem?_eq_getElem hkl]
   have hzz := hz zs[k] (List.getElem_mem hkl)
   rw [hg] at hc
   have HN : Hid ((zs.take (k + 1)).map tokOf = (zs.take k).map tokOf ++ [tokOf zs[k]]) := by
    show _ = _
    rw [List.take_add_one,List.getElem?_eq_getElem hkl,List.map_append]; rfl
   have hlk : ((zs.take k).map tokOf).length ≤ 1000 := by simp; omega
   have hsz := hbk.out.size
   have hlt2 := World.ownsRow.lt HO.out
   clear hg hSk
   generalize (zs.take k).map tokOf = J at *
   generalize zs[k] = z at *
   by_cases h100 : z < 100
   ·have hto : tokOf z = (2,z.toNat) := by unfold tokOf; rw [if_pos h100]
    obtain ⟨n,rfl⟩ : ∃ n : Nat,z = (n : Int) := ⟨z.toNat,by omega⟩
    have hw8 : IntKind.u8.wrap (n : Int) = (n : Int) := by rw [IntKind.wrap_u8]; omega
    rw [hto,Int.toNat_natCast] at HN
    have HB : Hid (Blk _ _ _ _ _) := Blk.new wr 90 2 n
    have HO1 : Hid (World.ownsRow _ _ _ _ _ _ _) := World.ownsRow.alloc HO.out (.cells #[.int .u8 ((2 : Nat) : Int),.int .u8 (n : Int)] 90)
    have HTK : Hid (TkSl _ _ _ _ _) := qdi HB.out (by decide) (by omega)
    go_wp2_with (at_builtin; refine q2o rfl _ _ rfl w.heap.size _ J [(2,n)] _ 1 1 rfl rfl HO1.out HTK.out (by omega) (by simp) (by simp; omega) ?_)
    intro v3 w3 hown3 hgr3
    have HO3 : Hid (w3.ownsRow w.heap.size 90 2 v3 (J ++ [(2,n)]).length (encT (J ++ [(2,n)]))) := by rw [List.length_append]; exact hown3
    have hb3 : Hid (Below w.heap.size w w3) := (hbk.out.alloc hsz _).grown hgr3 (by simp; omega) (fun j e => (hlt2 j e).1)
    clear hown3 hgr3
    go_wp2
    go_roundw
    case rel => exact ⟨k + 1,by omega,by go_num,by rw [HN.out]; exact HO3,hb3⟩
    case measure => simp [intOf]; omega
   ·have hto : tokOf z = ((z - 100).toNat,0) := by unfold tokOf; rw [if_neg h100]
    obtain ⟨n,rfl⟩ : ∃ n : Nat,z = (n : Int) + 100 := ⟨(z - 100).toNat,by omega⟩
    have e1 : ((n : Int) + 100 - 100).toNat = n := by omega
    have hw8 : IntKind.u8.wrap (n : Int) = (n : Int) := by rw [IntKind.wrap_u8]; omega
    have hws : IntKind.i64.wrap ((n : Int) + 100 - 100) = (n : Int) := by rw [IntKind.wrap_i64]; omega
    rw [hto,e1] at HN
    clear e1
    have HB : Hid (Blk _ _ _ _ _) := Blk.new wr 90 n 0
    have HO1 : Hid (World.ownsRow _ _ _ _ _ _ _) := World.ownsRow.alloc HO.out (.cells #[.int .u8 (n : Int),.int .u8 ((0 : Nat) : Int)] 90)
    have HTK : Hid (TkSl _ _ _ _ _) := qdi HB.out (by omega) (by decide)
    go_wp2_with (at_builtin; refine q2o rfl _ _ rfl w.heap.size _ J [(n,0)] _ 1 1 rfl rfl HO1.out HTK.out (by omega) (by simp) (by simp; omega) ?_)
    intro v3 w3 hown3 hgr3
    have HO3 : Hid (w3.ownsRow w.heap.size 90 2 v3 (J ++ [(n,0)]).length (encT (J ++ [(n,0)]))) := by rw [List.length_append]; exact hown3
    have hb3 : Hid (Below w.heap.size w w3) := (hbk.out.alloc hsz _).grown hgr3 (by simp; omega) (fun j e => (hlt2 j e).1)
    clear hown3 hgr3
    go_wp2
    go_roundw
    case rel => exact ⟨k + 1,by omega,by go_num,by rw [HN.out]; exact HO3,hb3⟩
    case measure => simp [intOf]; omega
  ·obtain rfl : k = len := by omega
   have HF : Hid (wr.ownsRow w.heap.size 90 2 u3 (zs.map tokOf).length (encT (zs.map tokOf))) := by
    have h := HO.out
    rw [List.take_of_length_le (by omega)] at h; exact h
   go_wp2
   go_ret
   exact ⟨u3,rfl,HF.out,hbk.out⟩
theorem qaR {ts : List Tk} (hl : ts.length ≤ 2048) (h : ¬ IsKer ts) : chkE ts = 7 := by
 unfold chkE
 rw [if_neg (by omega),if_neg h]
theorem q9D (zs : List Int) (w : World) (hl : zs.length ≤ 20) : IntSl Tryz.prog 29 .i64 (w.alloc (.cells (zs.map (Value.int .i64)).toArray 3)) (some ⟨w.heap.size,0,none⟩) zs.length zs.length zs := by
 have h1 : (w.alloc (.cells (zs.map (Value.int .i64)).toArray 3)).ownsRow w.heap.size 3 1 (.slice (some ⟨w.heap.size,0,none⟩) zs.length zs.length) zs.length (zs.map (Value.int .i64)) := RowI.owns (cur := zs) (MapKept.heap_alloc w _).1 (Nat.le_refl _) rfl (by unfold maxLen; omega)
 obtain ⟨a,cap,h2,h3,_⟩ := qg3 h1 Tryz.underlying29 q1T
 injection h2 with h2 _ h4
 rw [← h2,← h4] at h3
 exact h3
theorem q27 {P : Program} {e : TypeId} {s : Nat} (h : (P.info? e).map (·.size) = some s) (w : World) : (sizeOf e).run P w = .ok s w := by
 cases hq : P.info? e with
 | none => simp [hq] at h
 | some i => simp [hq] at h; simp [sizeOf,typeInfo,hq,h]
theorem cut_n {P : Program} {T e : TypeId} {s : Nat} (hu : P.underlying T = some (.slice e)) (hs : (P.info? e).map (·.size) = some s) (a : Option Addr) (n cap lo : Nat) (hl : lo ≤ n) (hc : n ≤ cap) (hn : a = none → cap = 0) :
  ∃ a',(∀ w,(Instr.sliceAt T (.slice a n cap) (some (.int .i64 (lo : Int))) none none).run P w = .ok (.slice a' (n - lo) (cap - lo)) w) ∧ (a' = none → cap - lo = 0) ∧ (lo < n → ∀ x,a = some x → a' = some (x.add (lo * s))) := by
 cases a with
 | none =>
  have := hn rfl
  subst this
  obtain rfl : n = 0 := by omega
  obtain rfl : lo = 0 := by omega
  exact ⟨none,fun w => by simp [Instr.sliceAt,Instr.slice,run_underlying hu,q27 hs,go_sem],fun _ => rfl,fun hk => absurd hk (by omega)⟩
 | some x =>
  by_cases hz : cap = lo
  ·refine ⟨some x,fun w => ?_,(fun h => by cases h),fun hk => absurd hk (by omega)⟩
   have hz2 : cap - lo = 0 := by omega
   simp [Instr.sliceAt,Instr.slice,run_underlying hu,q27 hs,go_sem,hl,hz2]
   exact fun h => absurd hz h
  ·refine ⟨some (x.add (lo * s)),fun w => ?_,(fun h => by cases h),fun _ y hy => by injection hy with hy; rw [hy]⟩
   simp [Instr.sliceAt,Instr.slice,run_underlying hu,q27 hs,go_sem,hl]
   exact fun h => absurd h hz
theorem pre_n {P : Program} {T e : TypeId} {s : Nat} (hu : P.underlying T = some (.slice e)) (hs : (P.info? e).map (·.size) = some s) (a : Option Addr) (n cap m : Nat) (hl : m ≤ n) (hc : n ≤ cap) (hn : a = none → cap = 0) (w : World) :
  (Instr.sliceAt T (.slice a n cap) none (some (.int .i64 (m : Int))) none).run P w = .ok (.slice a m cap) w := by
 cases a with
 | none =>
  have := hn rfl
  subst this
  obtain rfl : n = 0 := by omega
  obtain rfl : m = 0 := by omega
  simp [Instr.sliceAt,Instr.slice,run_underlying hu,q27 hs,go_sem]
 | some x =>
  have hmc : m ≤ cap := by omega
  simp [Instr.sliceAt,Instr.slice,run_underlying hu,q27 hs,go_sem,hmc]
theorem q4c {w : World} {base e size n m : Nat} {v : Value} {xs : List Value} (h : w.ownsRow base e size v n xs) (hm : m ≤ n) :
  ∃ a cap,v = .slice a n cap ∧ n ≤ cap ∧ cap ≤ maxLen ∧ (a = none → cap = 0) ∧ w.ownsRow base e size (.slice a m cap) m (xs.take (m * size)) ∧ (Value.slice a m cap).ownBlock = v.ownBlock := by
 obtain ⟨hl,h⟩ := h
 have hms : m * size ≤ n * size := Nat.mul_le_mul_right _ hm
 rcases h with ⟨rfl,rfl⟩ | ⟨g,cap,cur,rfl,hg,hcell,hnc,hcm,hsz,htk⟩
 ·obtain rfl : m = 0 := by omega
  exact ⟨none,0,rfl,Nat.le_refl _,Nat.zero_le _,fun _ => rfl,⟨by simp,Or.inl ⟨rfl,rfl⟩⟩,rfl⟩
 ·refine ⟨some ⟨g,0,none⟩,cap,rfl,hnc,hcm,fun h => (by cases h),⟨by simp; omega,Or.inr ⟨g,cap,cur,rfl,hg,hcell,by omega,hcm,hsz,?_⟩⟩,rfl⟩
  rw [← htk,List.take_take,Nat.min_eq_left hms]
def encN (ks : List Nat) : List Value := (ks.map fun o : Nat => (o : Int)).map (Value.int .u8)
theorem qdp (ks : List Nat) (m : Nat) : (encN ks).take (m * 1) = encN (ks.take m) := by simp [encN,List.map_take]
theorem q26 : (Tryz.prog.info? 92).map (·.size) = some 1 := by kernel_rfl
theorem qbC : (Tryz.prog.info? 92).map (fun i => (i.zero,i.size,i.bytes)) = some (some (.int .u8 0),1,1) := by kernel_rfl
theorem qdx {w : World} {base L m : Nat} {v : Value} {ks : List Nat} (h : w.ownsRow base 92 1 v L (encN ks)) (hm : m ≤ L) :
  ∃ a cap b,v = .slice a L cap ∧ (∀ w',(Instr.sliceAt 91 (.slice a L cap) none (some (.int .i64 (m : Int))) none).run Tryz.prog w' = .ok (.slice a m cap) w') ∧ w.ownsRow base 92 1 (.slice a m cap) m (encN (ks.take m)) ∧ (∀ w',(Instr.sliceAt 91 (.slice a L cap) (some (.int .i64 (m : Int))) none none).run Tryz.prog w' = .ok (.slice b (L - m) (cap - m)) w') ∧ KdSl w b (L - m) (cap - m) (ks.drop m) := by
 obtain ⟨a,cap,rfl,h1,h2,h3,h4,_⟩ := q4c h hm
 rw [qdp] at h4
 obtain ⟨b,h5,h6,h7⟩ := cut_n (P := Tryz.prog) (T := 91) Tryz.underlying91 q26 a L cap m hm h1 h3
 refine ⟨a,cap,b,rfl,pre_n Tryz.underlying91 q26 a L cap m hm h1 h3,h4,h5,?_⟩
 obtain ⟨a',cap',e,hI,_⟩ := q4X (P := Tryz.prog) (T := 91) h Tryz.underlying91 q26
 injection e with e1 _ e3
 subst e1 e3
 have hlen : ks.length = L := by have := hI.hlen; simpa using this
 have had : ∀ k,k < L - m → adOf b k = adOf a (m + k) := fun k hk => by
  cases a with
  | none => have := h3 rfl; omega
  | some x =>
   rw [h7 (by omega) x rfl]
   show (x.add (m * 1)).add k = x.add (m + k)
   rw [q8h,Nat.mul_one]
 refine ⟨by simp [hlen],by omega,by omega,fun n k w' hk hn => ?_,fun k hk => ?_,fun k hk => ?_,h6⟩
 ·exact q1j Tryz.underlying91 q26 (fun e => by have := h6 e; omega) k w' hk
 ·rw [had k hk,hI.cell (m + k) (by omega)]
  simp [List.getD_eq_getElem?_getD]
 ·rw [had k hk]; exact hI.blk (m + k) (by omega)
theorem q7C {w : World} {ops : Array Oper} {rest : List Oper} {o : Oper} {a : Act} {Q : Exit → Act → World → Prop} (hgd : o.guard = none) (s x : Operand)
  (ho : o.op = .call { callee := .builtin .append,args := #[s,x],argTypes := #[91,91] }) (base : Nat)
  (v : Value) (n : Nat) (ks : List Nat) (hs : a.eval s = v) (hown : w.ownsRow base 92 1 v n (encN ks)) (g' : Nat) (z : Nat) (hx : a.eval x = .slice (some ⟨g',0,none⟩) 1 1) (hc : w.cell? ⟨g',0,none⟩ = some (.int .u8 (z : Int)))
  (hn : n + 1 ≤ 140737488355328) (hbase : base ≤ w.heap.size)
  (h : ∀ v' w',w'.ownsRow base 92 1 v' (n + 1) (encN (ks ++ [z])) → w.grownBy w' v.ownBlock → wpList Tryz.prog ops Q rest (a.put o.dst v') w') : wpList Tryz.prog ops Q (o :: rest) a w := by
 obtain ⟨i,hi,hz0,hz1,hz2⟩ := info_parts qbC
 refine wpList_append_own w hgd s x 91 ho base 92 i _ 1 1 Tryz.underlying91 hi hz0 hz1 hz2 rfl (by decide) v n _ hs hown ⟨g',0,none⟩ 1 1 [.int .u8 (z : Int)] hx rfl ?_ (ints_oneCell .u8 [(z : Int)]) (by unfold maxLen; omega) (by omega) hbase ?_
 ·intro j u hj
  match j with
  | 0 => simp at hj; rw [← hj,qi]; exact hc
  | j + 1 => simp at hj
 ·intro v' w' h1 h2 _
  exact h v' w' (by unfold encN; rw [List.map_append,List.map_append]; exact h1) h2
theorem q9E (op : Nat) (a : Option Addr) (c n : Nat) (ks : List Nat) (w : World) (h23 : op ≤ 23) (n3 : op ≠ 3) (n9 : op ≠ 9) (n10 : op ≠ 10) (n13 : op ≠ 13) (n14 : op ≠ 14) (hn : n = takO op) (hl : ks.length = n) (hk : ∀ x ∈ ks,x ≤ 2) (h : KdSl w a n c ks) :
  Calls Tryz.prog 47 #[.int .u8 (op : Int),.slice a n c] w (PutR op ks w) := by
 subst hl
 match ks,hn,hk,h with
 | [],hn,_,_ =>
  rcases arm0 hn n3 with rfl | rfl | rfl | rfl | rfl
  ·exact qbE a _ c w
  ·exact qbF a _ c w
  ·exact qbG a _ c w
  ·exact qbH a _ c w
  ·exact qbI a _ c w
 | [x],hn,hk,h =>
  have hx := hk x (by simp)
  by_cases e6 : op = 6
  ·subst e6; exact qbJ a c x w hx h
  ·rcases arm1 hn e6 n9 n10 with rfl | rfl | rfl | rfl | rfl
   ·exact qbK a c x w hx h
   ·exact qbL a c x w hx h
   ·exact qaq a c x w hx h
   ·exact qar a c x w hx h
   ·exact qau a c x w hx h
 | [x,y],hn,hk,h =>
  have hx := hk x (by simp)
  have hy := hk y (by simp)
  rcases arm2 hn h23 n13 n14 with rfl | rfl | rfl | rfl | rfl | rfl | rfl | rfl
  ·exact qak a c x y w hx hy h
  ·exact qal a c x y w hx hy h
  ·exact qam a c x y w hx hy h
  ·exact qan a c x y w hx hy h
  ·exact qao a c x y w hx hy h
  ·exact qap a c x y w hx hy h
  ·exact qas a c x y w hx hy h
  ·exact qat a c x y w hx hy h
 | _ :: _ :: _ :: _,hn,_,_ => have := q5G op; simp at hn; omega
def kiStep (st : List Nat) (k : Tk) : Option (List Nat) := if st.length < takO k.1 then none else if kiFit k.1 (st.drop (st.length - takO k.1)) = true then some (st.take (st.length - takO k.1) ++ [kiMade k.1 (st.drop (st.length - takO k.1))]) else none
theorem q6o (k : Tk) (r : List Tk) (st : List Nat) : kiS (k :: r) st = (kiStep st k).bind (kiS r) := by
 rw [kiS]
 unfold kiStep
 split
 ·rfl
 ·split <;> rfl
theorem q8p : ∀ (l r : List Tk) (st : List Nat),kiS (l ++ r) st = (kiS l st).bind (kiS r)
 | [],r,st => rfl
 | k :: l,r,st => by
  show kiS (k :: (l ++ r)) st = _
  rw [q6o,q6o]
  cases kiStep st k with
  | none => rfl
  | some s => exact q8p l r s
theorem qeB {ts : List Tk} {k : Nat} {ks : List Nat} (h : k < ts.length) (hs : kiS (ts.take k) [] = some ks) : kiS (ts.take (k + 1)) [] = kiStep ks ts[k] := by
 rw [List.take_add_one,List.getElem?_eq_getElem h]
 show kiS (ts.take k ++ [ts[k]]) [] = _
 rw [q8p,hs]
 show kiS [ts[k]] ks = _
 rw [q6o]
 cases kiStep ks ts[k] <;> rfl
theorem qfH {ts : List Tk} {k : Nat} (h : kiS (ts.take k) [] = none) : kiOk ts = false := by
 have : kiS (ts.take k ++ ts.drop k) [] = none := by rw [q8p,h]; rfl
 rw [List.take_append_drop] at this
 unfold kiOk; rw [this]
def oneN (ks : List Nat) : Bool := match ks with | [x] => isN x 0 | _ => false
theorem qfG {ts : List Tk} {ks : List Nat} (h : kiS ts [] = some ks) : kiOk ts = oneN ks := by
 unfold kiOk
 rw [h]
 match ks with
 | [] => rfl
 | [x] => rfl
 | _ :: _ :: _ => rfl
theorem qdy (op : Nat) (a : List Nat) : kiMade op a ≤ 2 := by
 unfold kiMade
 repeat' split
 all_goals omega
theorem qdq {ts : List Tk} {k : Nat} (h : k < ts.length) (hf : fewL false ts = true) : ∃ b,fewAt b ts[k].1 ts[k].2 = true := by
 have h1 : fewL false (ts.take k) = true := by
  cases hc : fewL false (ts.take k) with
  | true => rfl
  | false => rw [q8j hc] at hf; cases hf
 refine ⟨lastP false (ts.take k),?_⟩
 rw [← qaV h h1]
 cases hc : fewL false (ts.take (k + 1)) with
 | true => rfl
 | false => rw [q8j hc] at hf; cases hf
theorem q3V (a : Option Addr) (len cap : Nat) (ts : List Tk) (w : World) (hT : TkSl w a len cap ts) (hln : len ≤ 1000000) (hF : fewL false ts = true) :
  Calls Tryz.prog 27 #[.slice a len cap] w fun e w' => e = .returned (.bool (kiOk ts)) ∧ Below w.heap.size w w' := by
 have HT : Hid (TkSl w a len cap ts) := hT
 have HLEN : Hid (ts.length = len) := hT.hlen
 have HF : Hid (fewL false ts = true) := hF
 clear hT hF
 go_enter Tryz.func27,Tryz.ntmps27
 go_wp2
 go_loopw [3,12] (fun v i wr => ∃ k : Nat,k ≤ len ∧ i = .int .i64 k ∧ (∃ ks : List Nat,Hid (wr.ownsRow w.heap.size 92 1 v ks.length (encN ks)) ∧ Hid (kiS (ts.take k) [] = some ks) ∧ Hid (ks.length ≤ k) ∧ Hid (∀ x ∈ ks,x ≤ 2)) ∧ Hid (Below w.heap.size w wr)) (fun _ i _ => len - (intOf i).toNat)
 case atStart => exact ⟨0,Nat.zero_le _,rfl,⟨[],⟨rfl,Or.inl ⟨rfl,rfl⟩⟩,rfl,Nat.le_refl _,fun x hx => (by simp at hx)⟩,Below.refl _ _⟩
 case round =>
  obtain ⟨k,hk,rfl,⟨ks,HO,HE,HLL,HK2⟩,HW⟩ := hrel
  have hll := HLL.out
  have hszr := HW.out.size
  by_cases hlt : k < len
  ·have hxl : k < ts.length := by have := HLEN.out; omega
   obtain ⟨g1,o1,s1,hi1,hx0,hx1,hg1,_⟩ := (HT.out.up HW.out).at Tryz.underlying22 q1U k hlt
   have hidx := fun w' => hi1 len w' hlt
   clear hi1
   have HNX : Hid (kiS (ts.take (k + 1)) [] = kiStep ks ts[k]) := qeB hxl HE.out
   obtain ⟨b,hfa⟩ := qdq hxl HF.out
   have HOFF : Hid (kiS (ts.take (k + 1)) [] = none → kiOk ts = false) := fun h => qfH h
   generalize ts[k] = q at *
   obtain ⟨op,p⟩ := q
   dsimp only at hx0 hx1 HNX hfa
   obtain ⟨_,h23,n3,n9,n10,n13,n14,_⟩ := q5j hfa
   clear hfa
   have hTk := fun w' => q6S op w' h23
   have hb1 := qd wr (.cells #[.int .u8 (op : Int),.int .u8 (p : Int)] 90)
   have HB1 : Hid (Below w.heap.size w (wr.alloc (.cells #[.int .u8 (op : Int),.int .u8 (p : Int)] 90))) := qe HW.out hb1
   have hz1 : (wr.alloc (.cells #[.int .u8 (op : Int),.int .u8 (p : Int)] 90)).heap.size = wr.heap.size + 1 := by simp
   have hTn : takO op = takO op := rfl
   obtain ⟨n,hn⟩ : ∃ n,n = takO op := ⟨_,rfl⟩
   have hn2 : n ≤ 2 := by rw [hn]; exact q5G op
   have HS : Hid (kiStep ks (op,p) = if ks.length < n then none else if kiFit op (ks.drop (ks.length - n)) = true then some (ks.take (ks.length - n) ++ [kiMade op (ks.drop (ks.length - n))]) else none) := by show _ = _; rw [hn]; rfl
   rw [← hn] at hTk
   have HN : Hid (n = takO op) := hn
   clear hn hTn
   by_cases hs : ks.length < n
   ·have HZ : Hid (kiOk ts = false) := HOFF.out (by rw [HNX.out,HS.out,if_pos hs])
    have hs' : (ks.length : Int) < (n : Int) := by omega
    obtain ⟨av,cv,rfl,_⟩ := q4c HO.out (Nat.le_refl _)
    clear HS HNX hb1 HOFF
    go_wp2_with (go_at_call 46; refine (hTk _).mono ?_; rintro e w' ⟨rfl,rfl⟩)
    go_ret
    exact ⟨by rw [HZ.out]; rfl,HB1.out⟩
   ·have hs' : ¬ (ks.length : Int) < (n : Int) := by omega
    obtain ⟨M,hM⟩ : ∃ M,M = ks.length - n := ⟨_,rfl⟩
    rw [if_neg hs,← hM] at HS
    obtain ⟨av,cv,bv,rfl,hpre,hown,hcut,hkd⟩ := qdx HO.out (m := M) (by omega)
    rw [show ks.length - M = n by omega] at hcut hkd
    have hdl : (ks.drop M).length = n := by simp; omega
    have hdk : ∀ x ∈ ks.drop M,x ≤ 2 := fun x hx => HK2.out x (List.mem_of_mem_drop hx)
    have htk : ∀ x ∈ ks.take M,x ≤ 2 := fun x hx => HK2.out x (List.mem_of_mem_take hx)
    have htl : (ks.take M).length = M := by simp; omega
    have hkd1 : KdSl (wr.alloc (.cells #[.int .u8 (op : Int),.int .u8 (p : Int)] 90)) bv n (cv - M) (ks.drop M) := IntSl.up hkd hb1
    have hput : ∀ m,Calls Tryz.prog 47 #[.int .u8 (op : Int),.slice bv n (cv - M)] ((wr.alloc (.cells #[.int .u8 (op : Int),.int .u8 (p : Int)] 90)).drewN m) (fun e w' => e = .returned (.tuple #[.int .u8 (kiMade op (ks.drop M) : Int),.bool (kiFit op (ks.drop M))]) ∧ ∃ m',w' = ((wr.alloc (.cells #[.int .u8 (op : Int),.int .u8 (p : Int)] 90)).drewN m).drewN m') := fun m => q9E op bv (cv - M) n (ks.drop M) _ h23 n3 n9 n10 n13 n14 HN.out hdl hdk (IntSl.drewN hkd1 m)
    have hml := qdy op (ks.drop M)
    have HNXT : Hid _ := HNX.out.trans HS.out
    have HTK : Hid _ := htk
    have HTL : Hid _ := htl
    have hwr : IntKind.i64.wrap ((ks.length : Int) - (n : Int)) = (M : Int) := by rw [IntKind.wrap_i64]; omega
    have hown1 := q1g hown hb1
    have HO1 : Hid _ := hown1
    have hML : M ≤ ks.length := by omega
    have HGE : Hid (∀ j,(Value.slice av M cv).ownBlock = some j → w.heap.size ≤ j) := q2z hown1
    have hcw0 : (wr.alloc (.cells #[.int .u8 (op : Int),.int .u8 (p : Int)] 90)).cell? ⟨wr.heap.size,0,none⟩ = some (.int .u8 (op : Int)) := qb (MapKept.heap_alloc wr _).1 0
    clear HNX HS hown hown1 hkd hkd1 hdk htk htl hdl hb1 HO HE HK2 hM
    generalize ks.drop M = dk at *
    generalize ks.take M = tk at *
    generalize kiMade op dk = md at *
    generalize kiFit op dk = ft at *
    generalize ks.length = L at *
    go_wp2_with (go_at_call 46; refine (hTk _).mono ?_; rintro e w' ⟨rfl,rfl⟩)
    generalize hW1 : wr.alloc (.cells #[.int .u8 (op : Int),.int .u8 (p : Int)] 90) = w1 at *
    go_quiet ((go_at_call 47; exact Calls.quiet_of (hput _)))
    cases ft with
    | false =>
     have HZ : Hid (kiOk ts = false) := HOFF.out (by rw [HNXT.out]; rfl)
     go_wp2
     go_ret
     exact ⟨by rw [HZ.out]; rfl,qe HB1.out (below_drewN (Below.refl _ _) _)⟩
    | true =>
     have HB2 : Hid (Below w.heap.size w (w1.drewN nq)) := qe HB1.out (below_drewN (Below.refl _ _) _)
     have HO2 : Hid ((w1.drewN nq).ownsRow w.heap.size 92 1 (.slice av M cv) M (encN tk)) := qdW HO1.out nq
     have hz2 : (w1.drewN nq).heap.size = wr.heap.size + 1 := hz1
     clear hput hcw0 HO1 HB1
     generalize w1.drewN nq = w2 at *
     have HO3 : Hid ((w2.alloc (.cells #[.int .u8 (md : Int)] 92)).ownsRow w.heap.size 92 1 (.slice av M cv) M (encN tk)) := World.ownsRow.alloc HO2.out _
     have hc3 : (w2.alloc (.cells #[.int .u8 (md : Int)] 92)).cell? ⟨wr.heap.size + 1,0,none⟩ = some (.int .u8 (md : Int)) := by rw [← hz2]; exact qb (MapKept.heap_alloc w2 _).1 0
     have hz3 : (w2.alloc (.cells #[.int .u8 (md : Int)] 92)).heap.size = w2.heap.size + 1 := by simp
     have HB3 : Hid (Below w.heap.size w (w2.alloc (.cells #[.int .u8 (md : Int)] 92))) := qe HB2.out (qd _ _)
     go_wp2_with (at_builtin; refine q7C rfl _ _ rfl w.heap.size _ M tk rfl HO3.out (wr.heap.size + 1) md rfl hc3 (by omega) (by rw [hz3]; omega) ?_)
     intro v4 w4 hown4 hgr4
     have HB4 : Hid (Below w.heap.size w w4) := HB3.out.grown hgr4 (by rw [hz3]; omega) HGE.out
     have HO4 : Hid (w4.ownsRow w.heap.size 92 1 v4 (tk ++ [md]).length (encN (tk ++ [md]))) := by
      show World.ownsRow _ _ _ _ _ _ _
      rw [List.length_append,HTL.out]; exact hown4
     clear hown4 hgr4 hc3 HO3
     go_wp2
     go_roundw
     case rel =>
      refine ⟨k + 1,by omega,by go_num,⟨tk ++ [md],HO4,?_,?_,?_⟩,HB4⟩
      ·show _ = _
       rw [HNXT.out]; rfl
      ·show _ ≤ _
       rw [List.length_append,HTL.out]; simp; omega
      ·intro x hx
       rcases List.mem_append.1 hx with hx | hx
       ·exact HTK.out x hx
       ·simp at hx; omega
     case measure => simp [intOf] <;> omega
  ·obtain rfl : k = len := by omega
   have HKO : Hid (kiOk ts = oneN ks) := by
    show _ = _
    have := HE.out
    rw [List.take_of_length_le (by have := HLEN.out; omega)] at this
    exact qfG this
   obtain ⟨av,cv,rfl,_⟩ := q4c HO.out (Nat.le_refl _)
   by_cases h1 : ks.length = 1
   ·obtain ⟨x,rfl⟩ : ∃ x,ks = [x] := by
     match ks,h1 with
     | [x],_ => exact ⟨x,rfl⟩
    obtain ⟨a',c',b',e',_,_,_,_⟩ := qdx HO.out (m := 0) (Nat.zero_le _)
    obtain ⟨a2,c2,e2,hI,_⟩ := q4X (P := Tryz.prog) (T := 91) HO.out Tryz.underlying91 q26
    injection e2 with e2 _ e3
    subst e2 e3
    obtain ⟨⟨g0,o0,s0⟩,i0,c0⟩ := q1s (n := 0) hI
    have hx2 : x ≤ 2 := HK2.out x (by simp)
    have his := fun w' => qU x w' hx2
    have HKO2 : Hid (kiOk ts = isN x 0) := HKO.out
    clear HKO hI e' HK2 HE HO HLL hll h1 hx2
    go_wp2_with (go_at_call 48; refine (his _).mono ?_; rintro e w' ⟨rfl,rfl⟩)
    go_ret
    exact ⟨by rw [HKO2.out]; rfl,HW.out⟩
   ·have h1' : ((ks.length : Int) == 1) = false := by rw [beq_eq_false_iff_ne]; omega
    have HZ : Hid (kiOk ts = false) := by
     show _ = _
     rw [HKO.out]
     match ks,h1 with
     | [],_ => rfl
     | [_],h => exact absurd rfl h
     | _ :: _ :: _,_ => rfl
    clear HKO
    go_wp2
    go_ret
    exact ⟨by rw [HZ.out]; rfl,HW.out⟩
theorem q3E (a : Option Addr) (len cap : Nat) (ts : List Tk) (w : World) (hT : TkSl w a len cap ts) : Calls Tryz.prog 9 #[.slice a len cap] w fun e w' => e = .returned (.int .i64 (chkE ts : Int)) ∧ Below w.heap.size w w' := by
 have hlen := hT.hlen
 by_cases hl : 2048 < len
 ·have HC : Hid (chkE ts = 3) := by show _ = _; unfold chkE; rw [if_pos (by omega)]
  have hl' : (2048 : Int) < (len : Int) := by omega
  clear hT hlen
  go_enter Tryz.func9,Tryz.ntmps9
  go_wp2
  go_ret
  exact ⟨by rw [HC.out]; rfl,Below.refl _ _⟩
 ·have hl' : ¬ (2048 : Int) < (len : Int) := by omega
  have h1 := q9C a len cap ts w hT (by omega)
  cases hf : fewL false ts with
  | false =>
   have HC : Hid (chkE ts = 7) := by
    refine qaR (by omega) (fun h => ?_)
    rw [((q3L ts).1 h).1] at hf; cases hf
   rw [hf] at h1
   clear hT hlen hf
   go_enter Tryz.func9,Tryz.ntmps9
   go_wp2_with (go_at_call 26; refine h1.mono ?_; rintro e w1 ⟨rfl,hb1⟩)
   go_ret
   exact ⟨by rw [HC.out]; rfl,hb1⟩
  | true =>
   have HT : Hid _ := hT
   have HF : Hid _ := hf
   rw [hf] at h1
   cases hk : kiOk ts with
   | false =>
    have HC : Hid (chkE ts = 7) := by
     refine qaR (by omega) (fun h => ?_)
     rw [((q3L ts).1 h).2] at hk; cases hk
    have HK : Hid _ := hk
    clear hT hlen hf hk
    go_enter Tryz.func9,Tryz.ntmps9
    go_wp2_with (go_at_call 26; refine h1.mono ?_; rintro e w1 ⟨rfl,hb1⟩; have h2 := q3V a len cap ts w1 (HT.out.up hb1) (by omega) HF.out; rw [HK.out] at h2)
    go_wp2_with (go_at_call 27; refine h2.mono ?_; rintro e w2 ⟨rfl,hb2⟩)
    go_ret
    exact ⟨by rw [HC.out]; rfl,qe hb1 hb2⟩
   | true =>
    have HC : Hid (chkE ts = 0) := q2K.2 ⟨by omega,(q3L ts).2 ⟨hf,hk⟩⟩
    have HK : Hid _ := hk
    clear hT hlen hf hk
    go_enter Tryz.func9,Tryz.ntmps9
    go_wp2_with (go_at_call 26; refine h1.mono ?_; rintro e w1 ⟨rfl,hb1⟩; have h2 := q3V a len cap ts w1 (HT.out.up hb1) (by omega) HF.out; rw [HK.out] at h2)
    go_wp2_with (go_at_call 27; refine h2.mono ?_; rintro e w2 ⟨rfl,hb2⟩)
    go_ret
    exact ⟨by rw [HC.out]; rfl,qe hb1 hb2⟩
end Go.Proofs.YtailhklbmenaoaaGreatDoor
