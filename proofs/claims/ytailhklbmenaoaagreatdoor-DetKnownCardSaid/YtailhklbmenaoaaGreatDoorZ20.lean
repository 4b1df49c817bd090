/- Texts of the proof, put together: what it uses. -/
import Derived.BigQuiet
import Derived.Maps.OwnSet
import Derived.DeepKeys4
import Derived.Laws.CopyRow
import Derived.Deep.RegionHeld3
import Derived.Test.YtailhklbmenaoaaGreatDoorZ05
import Derived.Test.YtailhklbmenaoaaGreatDoorZ07
set_option maxRecDepth 100000
set_option maxHeartbeats 16000000
namespace Go.Proofs.YtailhklbmenaoaaGreatDoor
open Go.RowKit Go.Maps
def encGd (ts : List Gd) : List Value := ts.flatMap fun t => [.int .i64 t.1,.int .i64 t.2.1,.int .i64 t.2.2]
theorem q7e (t : Gd) (ts : List Gd) : encGd (t :: ts) = .int .i64 t.1 :: .int .i64 t.2.1 :: .int .i64 t.2.2 :: encGd ts := rfl
theorem q3n (xs ys : List Gd) : encGd (xs ++ ys) = encGd xs ++ encGd ys := by simp [encGd]
theorem q2g : ∀ ts : List Gd,(encGd ts).length = ts.length * 3
 | [] => rfl
 | t :: ts => by rw [q7e]; simp [q2g ts]; omega
theorem q1d : ∀ (ts : List Gd) (k : Nat) (h : k < ts.length),(encGd ts)[3 * k]? = some (.int .i64 ts[k].1) ∧ (encGd ts)[3 * k + 1]? = some (.int .i64 ts[k].2.1) ∧ (encGd ts)[3 * k + 2]? = some (.int .i64 ts[k].2.2)
 | [],k,h => absurd h (by simp)
 | t :: ts,0,_ => ⟨rfl,rfl,rfl⟩
 | t :: ts,k + 1,h => by
  have := q1d ts k (by simpa using h)
  rw [q7e,show 3 * (k + 1) = 3 * k + 1 + 1 + 1 by omega,show 3 * k + 1 + 1 + 1 + 1 = (3 * k + 1) + 1 + 1 + 1 by omega,show 3 * k + 1 + 1 + 1 + 2 = (3 * k + 2) + 1 + 1 + 1 by omega]
  simpa using this
theorem q8Q (ts : List Gd) : ∀ u ∈ encGd ts,u.oneCell' = true := by
 intro u hu
 unfold encGd at hu
 obtain ⟨c,_,hc⟩ := List.mem_flatMap.1 hu
 simp at hc
 rcases hc with rfl | rfl | rfl <;> rfl
def I64 (z : Int) : Prop := -9223372036854775808 ≤ z ∧ z < 9223372036854775808
def GdOk (t : Gd) : Prop := I64 t.1 ∧ I64 t.2.1 ∧ I64 t.2.2
structure NdSl (w : World) (a : Option Addr) (len cap : Nat) (ts : List Gd) : Prop where
 hlen : ts.length = len
 hcap : len ≤ cap
 bd : cap ≤ maxLen
 nn : a = none → cap = 0
 c0 : ∀ x,a = some x → ∀ k (h : k < ts.length),w.cell? (x.add (3 * k)) = some (.int .i64 ts[k].1)
 c1 : ∀ x,a = some x → ∀ k (h : k < ts.length),w.cell? (x.add (3 * k + 1)) = some (.int .i64 ts[k].2.1)
 c2 : ∀ x,a = some x → ∀ k (h : k < ts.length),w.cell? (x.add (3 * k + 2)) = some (.int .i64 ts[k].2.2)
 ok : ∀ t ∈ ts,GdOk t
theorem NdSl.some_of {w : World} {a : Option Addr} {len cap : Nat} {ts : List Gd} (h : NdSl w a len cap ts) (hl : 0 < len) : ∃ x,a = some x := by
 cases a with
 | none => have := h.nn rfl; have := h.hcap; omega
 | some x => exact ⟨x,rfl⟩
theorem NdSl.lt {w : World} {x : Addr} {len cap : Nat} {ts : List Gd} (h : NdSl w (some x) len cap ts) (hl : 0 < len) : x.block < w.heap.size := by
 have h0 := h.c0 x rfl 0 (by have := h.hlen; omega)
 have := World.block_lt_of_cell? _ _ h0
 rwa [q1I] at this
theorem NdSl.keep {w w' : World} {a : Option Addr} {len cap : Nat} {ts : List Gd} (h : NdSl w a len cap ts) (hk : ∀ p v,w.cell? p = some v → (∀ x,a = some x → p.block = x.block) → w'.cell? p = some v) : NdSl w' a len cap ts := by
 have hb : ∀ x,a = some x → ∀ m,∀ y,a = some y → (x.add m).block = y.block := fun x hx m y hy => by rw [q1I]; rw [hx] at hy; injection hy with hy; rw [hy]
 exact ⟨h.hlen,h.hcap,h.bd,h.nn,fun x hx k hk' => hk _ _ (h.c0 x hx k hk') (hb x hx _),fun x hx k hk' => hk _ _ (h.c1 x hx k hk') (hb x hx _),fun x hx k hk' => hk _ _ (h.c2 x hx k hk') (hb x hx _),h.ok⟩
theorem NdSl.up {w w' : World} {a : Option Addr} {len cap : Nat} {ts : List Gd} (h : NdSl w a len cap ts) (hb : Below w.heap.size w w') : NdSl w' a len cap ts :=
 h.keep fun _ _ hp _ => qn hp hb
theorem NdSl.nil {w : World} : NdSl w none 0 0 [] :=
 ⟨rfl,Nat.le_refl _,Nat.zero_le _,fun _ => rfl,fun x hx => (by cases hx),fun x hx => (by cases hx),fun x hx => (by cases hx),fun t ht => (by simp at ht)⟩
theorem NdSl.at {w : World} {a : Option Addr} {len cap : Nat} {ts : List Gd} (h : NdSl w a len cap ts) {P : Program} {T e : TypeId} (hu : P.underlying T = some (.slice e)) (hs : (P.info? e).map (·.size) = some 3) (k : Nat) (hk : k < len) :
  ∃ g o s,(∀ (n : Nat) (w' : World),k < n → (Instr.indexAt T (.slice a n cap) (.int .i64 k)).run P w' = .ok (.pointer (some ⟨g,o,s⟩)) w') ∧ w.cell? ⟨g,o,s⟩ = some (.int .i64 (ts.getD k (0,0,0)).1) ∧ w.cell? ⟨g,o + 1,none⟩ = some (.int .i64 (ts.getD k (0,0,0)).2.1) ∧ w.cell? ⟨g,o + 2,none⟩ = some (.int .i64 (ts.getD k (0,0,0)).2.2) ∧ g < w.heap.size ∧ (∀ x,a = some x → x.block = g) ∧ GdOk (ts.getD k (0,0,0)) := by
 obtain ⟨x,rfl⟩ := h.some_of (by omega)
 have hkl : k < ts.length := by rw [h.hlen]; exact hk
 have e0 := h.c0 x rfl k hkl
 have e1 := h.c1 x rfl k hkl
 have e2 := h.c2 x rfl k hkl
 have eok := h.ok _ (List.getElem_mem hkl)
 have ex : ts[k] = ts.getD k (0,0,0) := by simp [List.getD_eq_getElem?_getD,List.getElem?_eq_getElem hkl]
 rw [ex] at e0 e1 e2 eok
 have hlt := h.lt (by omega)
 rw [← q8h] at e1 e2
 have hb := q1I x (3 * k)
 have hrun : ∀ (n : Nat) (w' : World),k < n → (Instr.indexAt T (.slice (some x) n cap) (.int .i64 k)).run P w' = .ok (.pointer (some (x.add (3 * k)))) w' := fun n w' hn => by
  simp [Instr.indexAt,run_underlying hu,asIntOf,q5Z hs,hn,Result.andThen,go_sem,Nat.mul_comm]
 generalize x.add (3 * k) = y at *
 obtain ⟨g,o,s⟩ := y
 refine ⟨g,o,s,hrun,e0,?_,?_,?_,?_,eok⟩
 ·simpa [Addr.add] using e1
 ·simpa [Addr.add] using e2
 ·dsimp only at hb; omega
 ·intro z hz; injection hz with hz; rw [← hz]; exact hb.symm
theorem qdT {w : World} {base e n : Nat} {v : Value} {ts : List Gd} (h : w.ownsRow base e 3 v n (encGd ts)) (hok : ∀ t ∈ ts,GdOk t) :
  ∃ a cap,v = .slice a n cap ∧ NdSl w a n cap ts ∧ ∀ x,a = some x → base ≤ x.block ∧ v.ownBlock = some x.block := by
 obtain ⟨hl,h⟩ := h
 rw [q2g] at hl
 have hl' : ts.length = n := by omega
 rcases h with ⟨rfl,rfl⟩ | ⟨g,cap,cur,rfl,hg,hcell,hnc,hcm,hsz,htk⟩
 ·obtain rfl := List.eq_nil_of_length_eq_zero hl'
  exact ⟨none,0,rfl,NdSl.nil,fun x hx => by cases hx⟩
 ·have key : ∀ j,j < n * 3 → w.cell? ⟨g,j,none⟩ = (encGd ts)[j]? := fun j hj => by
   rw [← htk,List.getElem?_take,if_pos hj]
   simp [World.cell?,hcell]
  refine ⟨some ⟨g,0,none⟩,cap,rfl,⟨hl',hnc,hcm,fun hn => (by cases hn),fun x hx k hk => ?_,fun x hx k hk => ?_,fun x hx k hk => ?_,hok⟩,fun x hx => by injection hx with hx; subst hx; exact ⟨hg,rfl⟩⟩
  ·injection hx with hx; subst hx
   rw [qi,Nat.zero_add,key _ (by omega)]; exact (q1d ts k hk).1
  ·injection hx with hx; subst hx
   rw [qi,Nat.zero_add,key _ (by omega)]; exact (q1d ts k hk).2.1
  ·injection hx with hx; subst hx
   rw [qi,Nat.zero_add,key _ (by omega)]; exact (q1d ts k hk).2.2
theorem qG : (Tryz.prog.info? 57).map (·.size) = some 3 := by kernel_rfl
theorem q4L : (Tryz.prog.info? 57).map (fun i => (i.zero,i.size,i.bytes)) = some (some (.agg #[.int .i64 0,.int .i64 0,.int .i64 0]),3,24) := by kernel_rfl
theorem NdSl.cells {w : World} {x : Addr} {len cap : Nat} {ts : List Gd} (h : NdSl w (some x) len cap ts) : ∀ j u,(encGd ts)[j]? = some u → w.cell? (x.add j) = some u := by
 intro j u hj
 have hjl := (List.getElem?_eq_some_iff.1 hj).1
 rw [q2g] at hjl
 obtain ⟨k,h0⟩ : ∃ k,j = 3 * k ∨ j = 3 * k + 1 ∨ j = 3 * k + 2 := ⟨j / 3,by omega⟩
 rcases h0 with rfl | rfl | rfl
 ·rw [(q1d ts k (by omega)).1] at hj
  rw [← hj]; exact h.c0 x rfl k (by omega)
 ·rw [(q1d ts k (by omega)).2.1] at hj
  rw [← hj]; exact h.c1 x rfl k (by omega)
 ·rw [(q1d ts k (by omega)).2.2] at hj
  rw [← hj]; exact h.c2 x rfl k (by omega)
theorem qbZ {w : World} {o : Oper} {a : Act} {K : Act → World → Prop} {Q : Exit → Act → World → Prop} (s x : Operand)
  (ho : o.op = .call { callee := .builtin .append,args := #[s,x],argTypes := #[30,30] }) (base : Nat)
  (v : Value) (xs ys : List Gd) (b : Option Addr) (len cap : Nat) (hs : a.eval s = v) (hx : a.eval x = .slice b len cap) (hown : w.ownsRow base 57 3 v xs.length (encGd xs)) (hT : NdSl w b len cap ys)
  (hn : xs.length ≤ 1000000) (hm : ys.length ≤ 1000000) (hbase : base ≤ w.heap.size)
  (h : ∀ v' w',w'.ownsRow base 57 3 v' (xs ++ ys).length (encGd (xs ++ ys)) → w.grownBy w' v.ownBlock → K (a.put o.dst v') w') : o.wp Tryz.prog a w K Q := by
 obtain ⟨i,hi,hz0,hz1,hz2⟩ := info_parts q4L
 have hl := hT.hlen
 cases b with
 | none =>
  have hc := hT.nn rfl
  have hcl := hT.hcap
  obtain rfl : len = 0 := by omega
  subst hc
  have hy : ys = [] := List.eq_nil_of_length_eq_zero hl
  subst hy
  have hrun := run_append_owned_none (P := Tryz.prog) w base 30 o.type 57 i 3 Tryz.underlying30 hi v xs.length (encGd xs) hown
  unfold Oper.wp execOp
  simp only [ho,resolve,invoke,builtin,Sem.run_bind,Sem.run_pure,Result.andThen_ok,List.map_toArray,List.map_cons,List.map_nil,hs,hx,hrun]
  exact h v w (by rw [List.append_nil]; exact hown) (World.grownBy.refl _ _)
 | some y =>
  refine wp_append_own w s x 30 ho base 57 i _ 3 24 Tryz.underlying30 hi hz0 hz1 hz2 rfl (by decide) v xs.length _ hs hown y len cap (encGd ys) hx (by rw [q2g,hl]) hT.cells (q8Q ys) (by unfold maxLen; omega) (by omega) hbase ?_
  intro v' w' h1 h2 _
  exact h v' w' (by rw [q3n,List.length_append,hl]; exact h1) h2
theorem q6D {w : World} {ops : Array Oper} {rest : List Oper} {o : Oper} {a : Act} {Q : Exit → Act → World → Prop} (hgd : o.guard = none) (s x : Operand)
  (ho : o.op = .call { callee := .builtin .append,args := #[s,x],argTypes := #[30,30] }) (base : Nat)
  (v : Value) (xs ys : List Gd) (b : Option Addr) (len cap : Nat) (hs : a.eval s = v) (hx : a.eval x = .slice b len cap) (hown : w.ownsRow base 57 3 v xs.length (encGd xs)) (hT : NdSl w b len cap ys)
  (hn : xs.length ≤ 1000000) (hm : ys.length ≤ 1000000) (hbase : base ≤ w.heap.size)
  (h : ∀ v' w',w'.ownsRow base 57 3 v' (xs ++ ys).length (encGd (xs ++ ys)) → w.grownBy w' v.ownBlock → wpList Tryz.prog ops Q rest (a.put o.dst v') w') : wpList Tryz.prog ops Q (o :: rest) a w :=
 wpList_plain hgd fun _ hK => qbZ s x ho base v xs ys b len cap hs hx hown hT hn hm hbase fun v' w' h1 h2 => hK _ _ (h v' w' h1 h2)
theorem q4E {cs : List Gd} {k : Nat} (h : k < cs.length) : cs.take (k + 1) = cs.take k ++ [cs.getD k (0,0,0)] := by
 rw [List.take_add_one,List.getElem?_eq_getElem h]; simp [List.getD_eq_getElem?_getD,List.getElem?_eq_getElem h]
theorem qd7 {xs ys : List Gd} {k : Nat} (hx : k < xs.length) (hy : k < ys.length) (h : xs.take k = ys.take k) (he : xs.getD k (0,0,0) = ys.getD k (0,0,0)) : xs.take (k + 1) = ys.take (k + 1) := by
 rw [q4E hx,q4E hy,h,he]
theorem q6K : ∃ f0 f1 f2,(Tryz.prog.fieldsOf 57).toList = [f0,f1,f2] ∧ (f0.name = "P" ∧ f0.type = 3 ∧ f0.offset = 0) ∧ (f1.name = "Lo" ∧ f1.type = 3 ∧ f1.offset = 1) ∧ (f2.name = "Hi" ∧ f2.type = 3 ∧ f2.offset = 2) := by
 have hfl : (Tryz.prog.fieldsOf 57).toList.map (fun f => (f.name,f.type,f.offset)) = [("P",3,0),("Lo",3,1),("Hi",3,2)] := by kernel_rfl
 cases hl : (Tryz.prog.fieldsOf 57).toList with
 | nil => rw [hl] at hfl; simp at hfl
 | cons f0 r =>
  cases r with
  | nil => rw [hl] at hfl; simp at hfl
  | cons f1 r =>
   cases r with
   | nil => rw [hl] at hfl; simp at hfl
   | cons f2 r =>
    rw [hl] at hfl
    simp at hfl
    obtain ⟨h0,h1,h2,rfl⟩ := hfl
    exact ⟨f0,f1,f2,rfl,h0,h1,h2⟩
theorem qad (x0 x1 x2 y0 y1 y2 : Int) (w : World) : (binOp .eql 57 (.agg #[.int .i64 x0,.int .i64 x1,.int .i64 x2]) (.agg #[.int .i64 y0,.int .i64 y1,.int .i64 y2])).run Tryz.prog w = .ok (.bool (decide (((x0,x1,x2) : Gd) = (y0,y1,y2)))) w := by
 have ht : Tryz.prog.underlying 57 = some (.struct (Tryz.prog.fieldsOf 57)) := by kernel_rfl
 have hp : Tryz.prog.stoodInHeld 57 = false := by kernel_rfl
 rw [run_eql_struct,run_equalIn_agg _ 9999 _ _ _ ht hp]
 obtain ⟨f0,f1,f2,hl,⟨a1,a2,a3⟩,⟨b1,b2,b3⟩,⟨c1,c2,c3⟩⟩ := q6K
 rw [hl]
 by_cases h0 : x0 = y0
 ·by_cases h1 : x1 = y1
  ·by_cases h2 : x2 = y2
   ·simp [Op.eqFields,a1,a2,a3,b1,b2,b3,c1,c2,c3,go_sem,h0,h1,h2,run_equalIn_int _ 9998 _ _ _ _ _ Tryz.underlying3]
   ·simp [Op.eqFields,a1,a2,a3,b1,b2,b3,c1,c2,c3,go_sem,h0,h1,h2,run_equalIn_int _ 9998 _ _ _ _ _ Tryz.underlying3]
  ·simp [Op.eqFields,a1,a2,a3,b1,b2,b3,go_sem,h0,h1,run_equalIn_int _ 9998 _ _ _ _ _ Tryz.underlying3]
 ·simp [Op.eqFields,a1,a2,a3,go_sem,h0,run_equalIn_int _ 9998 _ _ _ _ _ Tryz.underlying3]
theorem qaA (x0 x1 x2 y0 y1 y2 : Int) (w : World) : (binOp .neq 57 (.agg #[.int .i64 x0,.int .i64 x1,.int .i64 x2]) (.agg #[.int .i64 y0,.int .i64 y1,.int .i64 y2])).run Tryz.prog w = .ok (.bool (!decide (((x0,x1,x2) : Gd) = (y0,y1,y2)))) w := by
 have h := qad x0 x1 x2 y0 y1 y2 w
 rw [run_eql_struct] at h
 rw [run_neq_struct]
 cases hr : (Op.equalIn 10000 57 (.agg #[.int .i64 x0,.int .i64 x1,.int .i64 x2]) (.agg #[.int .i64 y0,.int .i64 y1,.int .i64 y2])).run Tryz.prog w with
 | ok b w1 =>
  rw [hr] at h
  simp [Result.andThen] at h ⊢
  obtain ⟨rfl,rfl⟩ := h
  exact ⟨rfl,rfl⟩
 | halt x w1 => rw [hr] at h; simp [Result.andThen] at h
theorem q73 (a : Option Addr) (len cap : Nat) (xs : List Gd) (a' : Option Addr) (len' cap' : Nat) (ys : List Gd) (w : World)
  (hS : NdSl w a len cap xs) (hO : NdSl w a' len' cap' ys) :
  Calls Tryz.prog 44 #[.slice a len cap,.slice a' len' cap'] w fun e w' => e = .returned (.bool (decide (xs = ys))) ∧ Below w.heap.size w w' := by
 have hb0 := hS.bd
 have hb1 := hS.hcap
 have hb2 := hO.bd
 have hb3 := hO.hcap
 unfold maxLen at hb0 hb2
 by_cases hll : len = len'
 ·subst hll
  go_enter Tryz.func44,Tryz.ntmps44
  go_wp2
  go_loopw [5] (fun i wr => ∃ k : Nat,k ≤ len ∧ i = .int .i64 k ∧ Hid (xs.take k = ys.take k) ∧ Hid (Below w.heap.size w wr)) (fun i _ => len - (intOf i).toNat)
  case atStart => exact ⟨0,Nat.zero_le _,rfl,by show _ = _; simp,Below.refl _ _⟩
  case round =>
   obtain ⟨k,hk,rfl,HU,hwr⟩ := hrel
   by_cases hlt : k < len
   ·obtain ⟨g1,o1,s1,hi1,hx0,hx1,hx2,_,_,_⟩ := (hS.up hwr.out).at Tryz.underlying30 qG k hlt
    obtain ⟨g2,o2,s2,hi2,hy0,hy1,hy2,_,_,_⟩ := (hO.up hwr.out).at Tryz.underlying30 qG k hlt
    have hidx := fun w' => hi1 len w' hlt
    have hidx' := fun w' => hi2 len w' hlt
    clear hi1 hi2
    have HN : Hid (xs.getD k (0,0,0) = ys.getD k (0,0,0) → xs.take (k + 1) = ys.take (k + 1)) := fun h => qd7 (by rw [hS.hlen]; exact hlt) (by rw [hO.hlen]; exact hlt) HU.out h
    have HM : Hid (xs.getD k (0,0,0) ≠ ys.getD k (0,0,0) → decide (xs = ys) = false) := fun h => decide_eq_false (fun e => h (by rw [e]))
    generalize xs.getD k (0,0,0) = x at *
    generalize ys.getD k (0,0,0) = y at *
    obtain ⟨x0,x1,x2⟩ := x
    obtain ⟨y0,y1,y2⟩ := y
    have hne := qaA x0 x1 x2 y0 y1 y2
    have HD : Hid (∀ b,decide (((x0,x1,x2) : Gd) = (y0,y1,y2)) = b → b = true → ((x0,x1,x2) : Gd) = (y0,y1,y2)) := fun b h1 h2 => of_decide_eq_true (h1.trans h2)
    have HE : Hid (∀ b,decide (((x0,x1,x2) : Gd) = (y0,y1,y2)) = b → b = false → ((x0,x1,x2) : Gd) ≠ (y0,y1,y2)) := fun b h1 h2 => of_decide_eq_false (h1.trans h2)
    generalize hq : decide (((x0,x1,x2) : Gd) = (y0,y1,y2)) = q at hne
    go_wp2_with fail
    go_quiet (fail)
    cases q with
    | false =>
     have HM2 : Hid _ := HM.out (HE.out false hq rfl)
     go_wp2
     go_ret
     exact ⟨by rw [HM2.out]; rfl,below_drewN hwr.out nq⟩
    | true =>
     have HN2 : Hid _ := HN.out (HD.out true hq rfl)
     go_wp2
     go_roundw
     case rel => exact ⟨k + 1,by omega,by go_num,HN2,below_drewN hwr.out nq⟩
     case measure => simp [intOf]; omega
   ·have hx : Hid (decide (xs = ys) = true) := by
     have := HU.out
     rw [List.take_of_length_le (by rw [hS.hlen]; omega),List.take_of_length_le (by rw [hO.hlen]; omega)] at this
     exact decide_eq_true this
    go_wp2
    go_ret
    exact ⟨by rw [hx.out]; rfl,hwr.out⟩
 ·have hx : Hid (decide (xs = ys) = false) := decide_eq_false (fun e => hll (by rw [← hS.hlen,← hO.hlen,e]))
  have hll' : ((len : Int) != (len' : Int)) = true := by simp; omega
  clear hll
  go_enter Tryz.func44,Tryz.ntmps44
  go_wp2
  go_ret
  exact ⟨by rw [hx.out]; rfl,Below.refl _ _⟩
def ndV (x : Gd) : Value := .agg #[.int .i64 x.1,.int .i64 x.2.1,.int .i64 x.2.2]
def klG (x : Gd) : Lit := .string (keyBytes [.int .i64 x.1,.int .i64 x.2.1,.int .i64 x.2.2])
theorem q9F : laidOutB Tryz.prog = true := by kernel_rfl
theorem q67 : Tryz.prog.keyType 57 = true := by kernel_rfl
theorem q3i : Keyed Tryz.prog 57 := Keyed.of_law (deep_law_laid q9F (m := 3) (by omega) (of_decide_eq_true (by kernel_rfl)) (by kernel_rfl) (by kernel_rfl))
theorem q74 : ∃ n,Tryz.prog.types.size + 1 = n + 2 := ⟨Tryz.prog.types.size - 1,by have : 0 < Tryz.prog.types.size := of_decide_eq_true (by kernel_rfl); omega⟩
theorem q7I : Tryz.prog.cellsOf 57 = 3 := by kernel_rfl
theorem q7F : Tryz.prog.cellsOf 3 = 1 := by kernel_rfl
theorem q2t (x : Gd) (h : GdOk x) : keyOf Tryz.prog 57 (ndV x) = some (klG x) := by
 obtain ⟨⟨h1,h2⟩,⟨h3,h4⟩,⟨h5,h6⟩⟩ := h
 obtain ⟨n,hn⟩ := q74
 have w1 : (Lit.int .i64 x.1).wf = true := WalkArith.wf_i64 (by omega)
 have w2 : (Lit.int .i64 x.2.1).wf = true := WalkArith.wf_i64 (by omega)
 have w3 : (Lit.int .i64 x.2.2).wf = true := WalkArith.wf_i64 (by omega)
 unfold keyOf ndV klG
 rw [Tryz.underlying57,hn]
 simp [q67,Value.formed,Tryz.underlying57,q7I,Value.cells,Program.keyLits,q7F,Tryz.underlying3,w1,w2,w3]
theorem qfU {x y : Gd} (h : ndV x = ndV y) : x = y := by
 unfold ndV at h
 obtain ⟨a,b,c⟩ := x
 obtain ⟨a',b',c'⟩ := y
 simp at h
 obtain ⟨h1,h2,h3⟩ := h
 rw [h1,h2,h3]
theorem q55 {x y : Gd} (hx : GdOk x) (hy : GdOk y) (h : klG x = klG y) : x = y :=
 qfU (q3i.inj (q2t x hx) (by rw [h]; exact q2t y hy))
theorem q8r (x : Gd) : WideAt.IsKeyLit (klG x) := trivial
def NumG (w : World) (b n : Nat) (f : Gd → Option Nat) : Prop :=
 ∃ D : DataW Unit,w.ownsMap Tryz.prog 57 (plainElem Tryz.prog 3) b n D ∧ Tidy D ∧ Maps.size D = n ∧ ∀ x,GdOk x → has D (klG x) = (f x).isSome ∧ ∀ j,f x = some j → D.atKey (klG x) (.lit (.int .i64 0)) = .lit (.int .i64 (j : Int))
theorem NumG.lt {w : World} {b n : Nat} {f : Gd → Option Nat} (h : NumG w b n f) : b < w.heap.size := by
 obtain ⟨D,h,_⟩ := h; exact h.lt
theorem NumG.far {w w' : World} {b n : Nat} {f : Gd → Option Nat} (h : NumG w b n f) (hb : w'.heap[b]? = w.heap[b]?) : NumG w' b n f := by
 obtain ⟨D,⟨es,clock,h1,h2⟩,r⟩ := h
 exact ⟨D,⟨es,clock,hb.trans h1,h2⟩,r⟩
theorem NumG.isMap {w : World} {b n : Nat} {f : Gd → Option Nat} (h : NumG w b n f) : ∃ es c,w.heap[b]? = some (.map es c) := by
 obtain ⟨D,⟨es,clock,h1,h2⟩,r⟩ := h
 exact ⟨es,clock,h1⟩
theorem NumG.alike {w : World} {b n : Nat} {f g : Gd → Option Nat} (h : NumG w b n f) (hg : ∀ x,GdOk x → f x = g x) : NumG w b n g := by
 obtain ⟨D,h1,h2,h3,h4⟩ := h
 exact ⟨D,h1,h2,h3,fun x hx => by rw [← hg x hx]; exact h4 x hx⟩
theorem q93 (w : World) : NumG (w.alloc (.map #[] 0)) w.heap.size 0 (fun _ => none) :=
 ⟨.map [],World.ownsMap_made _ _ _ _,tidy_empty,rfl,fun x _ => ⟨rfl,fun j hj => by cases hj⟩⟩
theorem qa3 (w : World) : (zeroValue 3).run Tryz.prog w = .ok (.int .i64 0) w := by kernel_rfl
theorem NumG.look {w : World} {b n : Nat} {f : Gd → Option Nat} (h : NumG w b n f) {x : Gd} (hx : GdOk x) :
  (Instr.lookup 104 (.map (some b)) (ndV x) true).run Tryz.prog w = .ok (.tuple #[.int .i64 (((f x).getD 0 : Nat) : Int),.bool (f x).isSome]) w := by
 obtain ⟨D,h1,h2,h3,h4⟩ := h
 obtain ⟨hh,ha⟩ := h4 x hx
 obtain ⟨v,ps,hrun,hv⟩ := h1.look_ok q3i Tryz.underlying104 (qa3 w) (plainElem_int Tryz.underlying3 (by decide)) (q2t x hx)
 obtain ⟨c,rfl,hc,hwc⟩ := plainElem_int_inv Tryz.underlying3 hv
 have hc' : D.atKey (klG x) (.lit (.int .i64 0)) = .lit (.int .i64 c) := congrArg Prod.fst hc
 rw [hrun,hh]
 cases hf : f x with
 | none =>
  rw [hf] at hh
  rw [atKey_of_not_has hh] at hc'
  injection hc' with hc'
  injection hc' with _ hc'
  subst hc'
  rfl
 | some j =>
  rw [ha j hf] at hc'
  injection hc' with hc'
  injection hc' with _ hc'
  subst hc'
  rfl
theorem NumG.put {w : World} {b n : Nat} {f : Gd → Option Nat} (h : NumG w b n f) (hn : n ≤ 100000000) {x : Gd} (hx : GdOk x) (hf : f x = none) (j : Nat) (hj : j ≤ 100000000) :
  ∃ w',(Instr.mapUpdate 104 (.map (some b)) (ndV x) (.int .i64 (j : Int))).run Tryz.prog w = .ok () w' ∧ NumG w' b (n + 1) (fun y => if y = x then some j else f y) ∧ w.grownBy w' (some b) := by
 obtain ⟨D,h1,h2,h3,h4⟩ := h
 obtain ⟨hh,_⟩ := h4 x hx
 rw [hf] at hh
 obtain ⟨w',hrun,hown,hg⟩ := h1.update q3i Tryz.underlying104 (by unfold maxLen; omega) (q2t x hx) (plainElem_int (a := (j : Int)) Tryz.underlying3 (WalkArith.wf_i64 (by omega)))
 refine ⟨w',hrun,⟨_,hown,h2.put (q8r x) _,?_,fun y hy => ?_⟩,hg⟩
 ·rw [size_put h2,hh,h3]; rfl
 ·dsimp only
  by_cases e : y = x
  ·subst e
   rw [if_pos rfl]
   refine ⟨has_put_same h2.isMap (q8r y) _,fun i hi => ?_⟩
   injection hi with hi
   subst hi
   exact atKey_put_same h2.isMap (q8r y) _ _
  ·have ne : klG y ≠ klG x := fun he => e (q55 hy hx he)
   rw [if_neg e,has_put_other ne]
   refine ⟨(h4 y hy).1,fun i hi => ?_⟩
   rw [atKey_put_other ne]
   exact (h4 y hy).2 i hi
theorem NumG.drop {w : World} {b n : Nat} {f : Gd → Option Nat} (h : NumG w b n f) {x : Gd} (hx : GdOk x) (hf : (f x).isSome = true) (ty : TypeId) :
  ∃ w',(Builtin.delete_ #[104,57] ty #[.map (some b),ndV x]).run Tryz.prog w = .ok (.tuple #[]) w' ∧ NumG w' b (n - 1) (fun y => if y = x then none else f y) ∧ w.grownBy w' (some b) := by
 obtain ⟨D,h1,h2,h3,h4⟩ := h
 obtain ⟨hh,_⟩ := h4 x hx
 rw [hf] at hh
 obtain ⟨w',hrun,hown,ht⟩ := h1.drop q3i Tryz.underlying104 (q2t x hx) ty
 have hsz : Maps.size (D.del (klG x)) = n - 1 := by
  have := size_del (k := klG x) h2
  rw [hh] at this
  simp at this
  omega
 have hown' : w'.ownsMap Tryz.prog 57 (plainElem Tryz.prog 3) b (n - 1) (D.del (klG x)) := by
  obtain ⟨es,clock,g1,g2,g3,g4⟩ := hown
  refine ⟨es,clock,g1,g2,?_,g4⟩
  rw [← hsz,g4]
  simp [Maps.size,length_sorted]
 refine ⟨w',hrun,⟨_,hown',h2.del _,hsz,fun y hy => ?_⟩,ht.grown⟩
 dsimp only
 by_cases e : y = x
 ·subst e
  rw [if_pos rfl]
  exact ⟨has_del_same,fun i hi => by cases hi⟩
 ·have ne : klG y ≠ klG x := fun he => e (q55 hy hx he)
  rw [if_neg e,has_del_other ne]
  refine ⟨(h4 y hy).1,fun i hi => ?_⟩
  rw [atKey_del_other ne]
  exact (h4 y hy).2 i hi
def posG (N : List Gd) (x : Gd) : Option Nat := if x ∈ N then some (N.idxOf x) else none
theorem q1P {N : List Gd} {x : Gd} (h : x ∈ N) : posG N x = some (N.idxOf x) := if_pos h
theorem q1C {N : List Gd} {x : Gd} (h : x ∉ N) : posG N x = none := if_neg h
theorem q96 {N : List Gd} {x : Gd} (hx : x ∉ N) (y : Gd) : (if y = x then some N.length else posG N y) = posG (N ++ [x]) y := by
 by_cases e : y = x
 ·subst e
  rw [if_pos rfl,q1P (by simp),qcg hx]
 ·rw [if_neg e]
  by_cases hm : y ∈ N
  ·rw [q1P hm,q1P (by simp [hm]),qch (List.prefix_append _ _) hm]
  ·rw [q1C hm,q1C (by simp [hm,e])]
def outG (N : List Gd) (n i : Nat) (y : Gd) : Option Nat := (posG N y).bind fun j => if n ≤ j ∧ j < n + i then none else some j
theorem q95 (N : List Gd) (n : Nat) (y : Gd) : posG N y = outG N n 0 y := by
 unfold outG
 cases posG N y with
 | none => rfl
 | some j => simp only [Option.bind_some]; rw [if_neg (by omega)]
theorem q5w {N : List Gd} (hn : N.Nodup) {i : Nat} {x : Gd} (h : N[i]? = some x) : x ∈ N ∧ N.idxOf x = i := by
 obtain ⟨hi,e⟩ := List.getElem?_eq_some_iff.1 h
 have hm : x ∈ N := e ▸ List.getElem_mem hi
 refine ⟨hm,?_⟩
 have hl := List.idxOf_lt_length_of_mem hm
 have h1 : N[N.idxOf x] = N[i] := by rw [e]; simp
 exact (List.getElem_inj hn).1 h1
theorem qdN {N : List Gd} (hn : N.Nodup) {n i : Nat} {x : Gd} (h : N[n + i]? = some x) (y : Gd) : (if y = x then none else outG N n i y) = outG N n (i + 1) y := by
 obtain ⟨hm,hx⟩ := q5w hn h
 unfold outG
 by_cases e : y = x
 ·subst e
  rw [if_pos rfl,q1P hm,hx]
  simp only [Option.bind_some]
  rw [if_pos (by omega)]
 ·rw [if_neg e]
  by_cases hy : y ∈ N
  ·rw [q1P hy]
   have hne : N.idxOf y ≠ n + i := fun he => e (by
    have := q8l hy
    rw [he,h] at this
    injection this with this
    exact this.symm)
   simp only [Option.bind_some]
   by_cases c : n ≤ N.idxOf y ∧ N.idxOf y < n + i
   ·rw [if_pos c,if_pos (by omega)]
   ·rw [if_neg c,if_neg (by omega)]
  ·rw [q1C hy]; rfl
theorem qd2 {N : List Gd} (hn : N.Nodup) {n i : Nat} {x : Gd} (h : N[n + i]? = some x) : (outG N n i x).isSome = true := by
 obtain ⟨hm,hx⟩ := q5w hn h
 unfold outG
 rw [q1P hm,hx]
 simp only [Option.bind_some]
 rw [if_neg (by omega)]
 rfl
theorem qeM {N : List Gd} (hn : N.Nodup) {n : Nat} (h : n ≤ N.length) (y : Gd) : outG N n (N.length - n) y = posG (N.take n) y := by
 unfold outG
 by_cases hy : y ∈ N
 ·rw [q1P hy]
  have hl := List.idxOf_lt_length_of_mem hy
  simp only [Option.bind_some]
  by_cases c : N.idxOf y < n
  ·rw [if_neg (by omega)]
   have hg : (N.take n)[N.idxOf y]? = some y := by rw [List.getElem?_take,if_pos c]; exact q8l hy
   obtain ⟨h1,h2⟩ := q5w (hn.sublist (List.take_sublist n N)) hg
   rw [q1P h1,h2]
  ·rw [if_pos (by omega)]
   refine (q1C fun hm => ?_).symm
   obtain ⟨i,hi⟩ := List.mem_iff_getElem?.1 hm
   rw [List.getElem?_take] at hi
   by_cases ci : i < n
   ·rw [if_pos ci] at hi
    have := (q5w hn hi).2
    omega
   ·rw [if_neg ci] at hi; cases hi
 ·rw [q1C hy,q1C (fun hm => hy (List.mem_of_mem_take hm))]; rfl
theorem q5B {P : Program} {T e : TypeId} {w : World} {base n : Nat} {v : Value} {zs : List Int} (h : w.ownsRow base e 1 v n (zs.map (Value.int .i64))) (hu : P.underlying T = some (.slice e)) (hs : (P.info? e).map (·.size) = some 1) :
  ∃ a cap,v = .slice a n cap ∧ IntSl P T .i64 w a n cap zs ∧ (∀ k,k < n → base ≤ (adOf a k).block) ∧ ∀ x,a = some x → x.block < w.heap.size := by
 obtain ⟨hl,h⟩ := h
 simp at hl
 rcases h with ⟨rfl,rfl⟩ | ⟨g,cap,cur,rfl,hg,hcell,hnc,hcm,hsz,htk⟩
 ·have : zs = [] := List.eq_nil_of_length_eq_zero hl
  subst this
  exact ⟨none,0,rfl,⟨rfl,Nat.le_refl _,Nat.zero_le _,fun m k w hk hm => absurd hk (by omega),fun k hk => absurd hk (by omega),fun k hk => absurd hk (by omega),fun _ => rfl⟩,fun k hk => absurd hk (by omega),fun x hx => by cases hx⟩
 ·have had : ∀ k,adOf (some ⟨g,0,none⟩) k = ⟨g,k,none⟩ := fun k => by simp [adOf,qi]
  have hlt : g < w.heap.size := (Array.getElem?_eq_some_iff.1 hcell).1
  refine ⟨some ⟨g,0,none⟩,cap,rfl,⟨hl,hnc,hcm,fun m k w hk hm => q1j hu hs (by simp) k w hk,fun k hk => ?_,fun k hk => by rw [had]; exact hlt,by simp⟩,fun k hk => by rw [had]; exact hg,fun x hx => by injection hx with hx; rw [← hx]; exact hlt⟩
  rw [had]
  have hk2 : (cur.toList.take (n * 1))[k]? = some (.int .i64 (zs.getD k 0)) := by
   rw [htk]; simp [List.getD_eq_getElem?_getD,List.getElem?_eq_getElem (show k < zs.length by omega)]
  rw [List.getElem?_take,if_pos (by omega)] at hk2
  simp [World.cell?,hcell]
  simpa using hk2
theorem q9o {w : World} {ops : Array Oper} {rest : List Oper} {o : Oper} {a : Act} {Q : Exit → Act → World → Prop} (hgd : o.guard = none) (s x : Operand)
  (ho : o.op = .call { callee := .builtin .append,args := #[s,x],argTypes := #[29,29] }) (base : Nat)
  (v : Value) (n : Nat) (zs : List Int) (hs : a.eval s = v) (hown : w.ownsRow base 3 1 v n (zs.map (Value.int .i64))) (g' : Nat) (z : Int) (hx : a.eval x = .slice (some ⟨g',0,none⟩) 1 1) (hc : w.cell? ⟨g',0,none⟩ = some (.int .i64 z))
  (hn : n + 1 ≤ 2000000) (hbase : base ≤ w.heap.size)
  (h : ∀ v' w',w'.ownsRow base 3 1 v' (n + 1) ((zs ++ [z]).map (Value.int .i64)) → w.grownBy w' v.ownBlock → wpList Tryz.prog ops Q rest (a.put o.dst v') w') : wpList Tryz.prog ops Q (o :: rest) a w := by
 obtain ⟨i,hi,hz0,hz1,hz2⟩ := info_parts q3g
 refine wpList_append_own w hgd s x 29 ho base 3 i _ 1 8 Tryz.underlying29 hi hz0 hz1 hz2 rfl (by decide) v n _ hs hown ⟨g',0,none⟩ 1 1 [.int .i64 z] hx rfl ?_ (fun u hu => by simp at hu; subst hu; rfl) (by unfold maxLen; omega) (by omega) hbase ?_
 ·intro j u hj
  match j with
  | 0 => simp at hj; rw [← hj,qi]; exact hc
  | j + 1 => simp at hj
 ·intro v' w' h1 h2 _
  exact h v' w' (by rw [List.map_append]; exact h1) h2
theorem q4d {w : World} {base e size n : Nat} {v : Value} {xs : List Value} (h : w.ownsRow base e size v n xs) : ∃ a c,v = .slice a n c := by
 rcases h.2 with ⟨rfl,rfl⟩ | ⟨g,cap,cur,rfl,_⟩
 ·exact ⟨none,0,rfl⟩
 ·exact ⟨_,cap,rfl⟩
def goV : Option Int → Value
 | some q => .tuple #[.int .i64 q,.bool true]
 | none => .tuple #[.int .i64 0,.bool false]
theorem qfw {N : List Gd} {x k : Nat} {r : Int} (h : 0 ≤ r) (hl : (N.length : Int) ≤ r) : goG N x k r = none := by
 have h0 : ¬ r < 0 := by omega
 cases k with
 | zero => simp [goG,h0]
 | succ k =>
  have : N[r.toNat]? = none := List.getElem?_eq_none (by omega)
  simp [goG,h0,this]
theorem qb1 {N : List Gd} {x : Nat} {r : Int} (h : 0 ≤ r) : goG N x 0 r = none := by
 have h0 : ¬ r < 0 := by omega
 simp [goG,h0]
theorem qfv {N : List Gd} {x k i : Nat} (h : ¬ (0 ≤ (N.getD i (0,0,0)).1 ∧ (N.getD i (0,0,0)).1 ≤ 7)) : goG N x k (i : Int) = none := by
 cases k with
 | zero => exact qb1 (by omega)
 | succ k =>
  have h0 : ¬ (i : Int) < 0 := by omega
  rcases e : N[i]? with _ | ⟨P,lo,hi⟩
  ·simp [goG,h0,e]
  ·simp only [List.getD_eq_getElem?_getD,e,Option.getD_some] at h
   simp only [goG,h0,if_false,Int.toNat_natCast,e,if_neg h]
theorem qep {N : List Gd} {x k i : Nat} {P lo hi : Int} (hl : i < N.length) (e : N.getD i (0,0,0) = (P,lo,hi)) (h0 : 0 ≤ P) (h7 : P ≤ 7) : goG N x (k + 1) (i : Int) = goG N x k (if x.testBit P.toNat then hi else lo) := by
 refine qb2 (P := P) (lo := lo) (hi := hi) ?_ h0 h7
 rw [← e]
 simp [List.getD_eq_getElem?_getD,List.getElem?_eq_getElem hl]
abbrev ZSl (w : World) (a : Option Addr) (len cap : Nat) (l : List Int) : Prop := IntSl Tryz.prog 29 .i64 w a len cap l
def TabRG (n : Int) (N : List Gd) (r : Int) (w : World) (e : Ending) (w' : World) : Prop := Below w.heap.size w w' ∧
 ((¬ (0 ≤ n ∧ n ≤ 8) ∧ e = .returned (.tuple #[.slice none 0 0,.int .i64 2])) ∨
  (0 ≤ n ∧ n ≤ 8 ∧ ((tabT N r (2 ^ n.toNat) = none ∧ e = .returned (.tuple #[.slice none 0 0,.int .i64 12])) ∨
   ∃ l a c,tabT N r (2 ^ n.toNat) = some l ∧ e = .returned (.tuple #[.slice a l.length c,.int .i64 0]) ∧ ZSl w' a l.length c l)))
theorem qe5 {N : List Gd} {r : Int} {k : Nat} {l : List Int} {v : Int} (h : tabT N r k = some l) (hg : goG N k 8 r = some v) : tabT N r (k + 1) = some (l ++ [v]) := by
 simp [tabT,h,hg]
theorem q8H (n : Nat) (h : n ≤ 8) : wrap64 ((2 : Int) ^ n) = ((2 ^ n : Nat) : Int) := by
 have h1 : (2 : Nat) ^ n ≤ 2 ^ 8 := Nat.pow_le_pow_right (by decide) h
 rw [show (2 : Int) ^ n = ((2 ^ n : Nat) : Int) by simp]
 unfold wrap64
 generalize (2 : Nat) ^ n = q at *
 omega
theorem q5T {w w' : World} (h : ∃ n,w' = w.drewN n) : Below w.heap.size w w' := by obtain ⟨n,rfl⟩ := h; exact below_drewN (Below.refl _ _) n
theorem RowI.zsl {P : Program} {T e : TypeId} {w : World} {g n : Nat} {cur : List Int} (h : RowI w e g cur) (hu : P.underlying T = some (.slice e)) (hs : (P.info? e).map (·.size) = some 1) (hn : n ≤ cur.length) (hm : cur.length ≤ maxLen) :
  IntSl P T .i64 w (some ⟨g,0,none⟩) n cur.length (cur.take n) := by
 have had : ∀ k,adOf (some ⟨g,0,none⟩) k = ⟨g,k,none⟩ := fun k => by simp [adOf,qi]
 refine ⟨by simp; omega,hn,hm,fun m k w hk hm => q1j hu hs (by simp) k w hk,fun k hk => ?_,fun k hk => ?_,by simp⟩
 ·rw [had,h.cell (by omega)]; simp [List.getD_eq_getElem?_getD,hk]
 ·rw [had]; exact h.lt
def fitB (m : Nat) (N : List Gd) (a : Nat) (p r : Int) : Bool := if r < 0 then decide (-(m : Int) ≤ r) else decide (r < (a : Int)) && decide (p < (N.getD r.toNat (0,0,0)).1)
theorem qel {m : Nat} {N : List Gd} {a : Nat} {p r : Int} (ha : a ≤ N.length) : fitB m N a p r = true ↔ FitG m N a p r := by
 unfold fitB FitG
 by_cases h : r < 0
 ·simp only [h,if_true,decide_eq_true_eq,true_and]
  constructor
  ·exact fun h1 => .inl h1
  ·rintro (h1 | ⟨i,e,_⟩)
   ·exact h1
   ·omega
 ·simp only [h,if_false,Bool.and_eq_true,decide_eq_true_eq,false_and,false_or]
  constructor
  ·rintro ⟨h1,h2⟩
   have hl : r.toNat < N.length := by omega
   refine ⟨r.toNat,by omega,by omega,N[r.toNat],List.getElem?_eq_getElem hl,?_⟩
   simpa [List.getD_eq_getElem?_getD,List.getElem?_eq_getElem hl] using h2
  ·rintro ⟨i,rfl,h1,nd,h2,h3⟩
   refine ⟨by omega,?_⟩
   simpa [List.getD_eq_getElem?_getD,h2] using h3
structure AuB (w : World) (g : Nat) (p : Int) (aA : Option Addr) (nA cA : Nat) (aG : Option Addr) (nG cG : Nat) (aN : Option Addr) (nN cN : Nat) : Prop where
 c0 : w.cell? ⟨g,0,none⟩ = some (.int .i64 p)
 c1 : w.cell? ⟨g,1,none⟩ = some (.slice aA nA cA)
 c2 : w.cell? ⟨g,2,none⟩ = some (.slice aG nG cG)
 c3 : w.cell? ⟨g,3,none⟩ = some (.slice aN nN cN)
theorem AuB.up {w w' : World} {g : Nat} {p : Int} {aA : Option Addr} {nA cA : Nat} {aG : Option Addr} {nG cG : Nat} {aN : Option Addr} {nN cN : Nat} (h : AuB w g p aA nA cA aG nG cG aN nN cN) (hb : Below w.heap.size w w') : AuB w' g p aA nA cA aG nG cG aN nN cN := ⟨qn h.c0 hb,qn h.c1 hb,qn h.c2 hb,qn h.c3 hb⟩
theorem q1p (w : World) (p : Int) (aA : Option Addr) (nA cA : Nat) (aG : Option Addr) (nG cG : Nat) (aN : Option Addr) (nN cN : Nat) : AuB (w.alloc (.cells #[.int .i64 p,.slice aA nA cA,.slice aG nG cG,.slice aN nN cN] 32 (0,0))) w.heap.size p aA nA cA aG nG cG aN nN cN := by
 have h := (MapKept.heap_alloc w (.cells #[.int .i64 p,.slice aA nA cA,.slice aG nG cG,.slice aN nN cN] 32 (0,0))).1
 exact ⟨qb h 0,qb h 1,qb h 2,qb h 3⟩
theorem qc1 (w : World) (o : Obj) : (w.alloc o).heap.size = w.heap.size + 1 := by simp
theorem q3G (p : Int) (aA : Option Addr) (nA cA : Nat) (aG : Option Addr) (nG cG : Nat) (aN : Option Addr) (nN cN : Nat) (bA : Option Addr) (dA : Nat) (bG : Option Addr) (dG : Nat) (bN : Option Addr) (dN : Nat) (bs : List Bool) (gs : List Int) (N : List Gd) (w : World)
  (h1 : BoSl w aA nA cA bs) (h2 : ZSl w aG nG cG gs) (h3 : NdSl w aN nN cN N) (k1 : BoSl w bA nA dA bs) (k2 : ZSl w bG nG dG gs) (k3 : NdSl w bN nN dN N) :
  Calls Tryz.prog 21 #[.agg #[.int .i64 p,.slice aA nA cA,.slice aG nG cG,.slice aN nN cN],.agg #[.int .i64 p,.slice bA nA dA,.slice bG nG dG,.slice bN nN dN]] w fun e w' => e = .returned (.bool true) ∧ Below w.heap.size w w' := by
 have HA0 : Hid _ := q1p w p aA nA cA aG nG cG aN nN cN
 have HB0 : Hid _ := qd w (.cells #[.int .i64 p,.slice aA nA cA,.slice aG nG cG,.slice aN nN cN] 32 (0,0))
 have HS1 : Hid (∀ w',Below w.heap.size w w' → Calls Tryz.prog 42 #[.slice aA nA cA,.slice bA nA dA] w' fun e w2 => e = .returned (.bool true) ∧ Below w'.heap.size w' w2) := fun w' hb => by
  have := q88 aA nA cA bs bA nA dA bs w' (h1.up hb) (k1.up hb)
  simpa using this
 have HS2 : Hid (∀ w',Below w.heap.size w w' → Calls Tryz.prog 43 #[.slice aG nG cG,.slice bG nG dG] w' fun e w2 => e = .returned (.bool true) ∧ Below w'.heap.size w' w2) := fun w' hb =>
  (q89 aG nG cG gs bG nG dG gs w' (h2.up hb) (k2.up hb)).mono fun e w2 ⟨he,hn⟩ => ⟨by rw [he]; simp,q5T hn⟩
 have HS3 : Hid (∀ w',Below w.heap.size w w' → Calls Tryz.prog 44 #[.slice aN nN cN,.slice bN nN dN] w' fun e w2 => e = .returned (.bool true) ∧ Below w'.heap.size w' w2) := fun w' hb => by
  have := q73 aN nN cN N bN nN dN N w' (h3.up hb) (k3.up hb)
  simpa using this
 clear h1 h2 h3 k1 k2 k3
 generalize hw1 : w.alloc (.cells #[.int .i64 p,.slice aA nA cA,.slice aG nG cG,.slice aN nN cN] 32 (0,0)) = w1 at *
 have Hw1 : Hid _ := hw1
 have HA1 : Hid _ := q1p w1 p bA nA dA bG nG dG bN nN dN
 have HBn : Hid _ := qd w1 (.cells #[.int .i64 p,.slice bA nA dA,.slice bG nG dG,.slice bN nN dN] 32 (0,0))
 have HB1 : Hid _ := qe HB0.out HBn.out
 have HA2 : Hid _ := HA0.out.up HBn.out
 obtain ⟨c0,c1,c2,c3⟩ := HA2.out
 obtain ⟨d0,d1,d2,d3⟩ := HA1.out
 have j1 := HS1.out _ HB1.out
 rw [← hw1] at c0 c1 c2 c3 d0 d1 d2 d3 j1
 clear hw1
 go_enter Tryz.func21,Tryz.ntmps21
 go_wp2_with fail
 refine j1.mono ?_
 rw [Hw1.out]
 rintro e w2 ⟨rfl,hb2⟩
 have HA3 : Hid _ := HA2.out.up hb2
 have HA4 := HA1.out.up hb2
 rw [← Hw1.out,qc1] at HA4
 have HA4 : Hid _ := HA4
 have HB2 : Hid _ := HB1.out.trans (hb2.mono HB1.out.size)
 clear c0 c1 c2 c3 d0 d1 d2 d3 j1 hb2
 have j2 := HS2.out _ HB2.out
 obtain ⟨c0,c1,c2,c3⟩ := HA3.out
 obtain ⟨d0,d1,d2,d3⟩ := HA4.out
 go_wp2_with fail
 refine j2.mono ?_
 rintro e w3 ⟨rfl,hb3⟩
 have HA5 : Hid _ := HA3.out.up hb3
 have HA6 : Hid _ := HA4.out.up hb3
 have HB3 : Hid _ := HB2.out.trans (hb3.mono HB2.out.size)
 clear c0 c1 c2 c3 d0 d1 d2 d3 j2 hb3
 have j3 := HS3.out _ HB3.out
 obtain ⟨c0,c1,c2,c3⟩ := HA5.out
 obtain ⟨d0,d1,d2,d3⟩ := HA6.out
 go_wp2_with fail
 refine j3.mono ?_
 rintro e w4 ⟨rfl,hb4⟩
 have HB4 : Hid _ := HB3.out.trans (hb4.mono HB3.out.size)
 clear c0 c1 c2 c3 d0 d1 d2 d3 j3 hb4
 go_wp2
 go_ret
 exact ⟨rfl,HB4.out⟩
def BoRow (w : World) (g : Nat) (bs : List Bool) : Prop := w.heap[g]? = some (.cells (bs.map Value.bool).toArray 4 (0,0))
def zB (k : Nat) : List Bool := List.replicate k false
theorem madeB (n : Nat) : madeCells #[.bool false] n = ((zB n).map Value.bool).toArray := by
 apply Array.ext_getElem?
 intro i
 by_cases h : i < n
 ·simp [madeCells,zB,h,Nat.mod_one]
 ·simp [madeCells,zB,h]
theorem qaf : (Tryz.prog.info? 4).map (fun i => (i.zero,i.size,i.bytes)) = some (some (.bool false),1,1) := by kernel_rfl
theorem qbM (l c : Nat) (L C : Int) (hl : L = l) (hc : C = c) (hlc : l ≤ c) (hb : c ≤ 1000000) (w : World) :
  (Instr.makeSlice 28 (.int .i64 L) (.int .i64 C)).run Tryz.prog w = .ok (.slice (some ⟨w.heap.size,0,none⟩) l c) (w.alloc (.cells ((zB c).map Value.bool).toArray 4)) := by
 obtain ⟨i,hi,hz0,hz1,hz2⟩ := info_parts qaf
 have := run_make (P := Tryz.prog) w 28 4 i (.bool false) Tryz.underlying28 hi hz0 .i64 .i64 L C (by omega) (by omega) (by rw [hz2]; omega) (by omega)
 rw [this,hl,hc,hz1,← madeB]
 simp only [Int.toNat_natCast,Nat.mul_one]
 rfl
def ChkR (p : Int) (ns : Nat) (N : List Gd) (gs : List Int) (w : World) (e : Ending) (w' : World) : Prop := Below w.heap.size w w' ∧ ∃ v,e = .returned (.int .i64 v) ∧ ((v = 0 ∧ MayG p ns N gs) ∨ (v = 12 ∧ ¬ MayG p ns N gs))
def NdMay (p : Int) (ns : Nat) (N : List Gd) (k : Nat) : Prop := 0 ≤ (N.getD k (0,0,0)).1 ∧ (N.getD k (0,0,0)).1 < p ∧ (N.getD k (0,0,0)).2.1 ≠ (N.getD k (0,0,0)).2.2 ∧ FitG ns N k (N.getD k (0,0,0)).1 (N.getD k (0,0,0)).2.1 ∧ FitG ns N k (N.getD k (0,0,0)).1 (N.getD k (0,0,0)).2.2
theorem MayG.nd {p : Int} {ns : Nat} {N : List Gd} {gs : List Int} (h : MayG p ns N gs) {k : Nat} (hk : k < N.length) : NdMay p ns N k := by
 have e : N[k]? = some (N.getD k (0,0,0)) := by simp [List.getD_eq_getElem?_getD,List.getElem?_eq_getElem hk]
 unfold NdMay
 generalize N.getD k (0,0,0) = nd at *
 obtain ⟨P,lo,hi⟩ := nd
 exact h.node k P lo hi e
theorem qgC {p : Int} {ns : Nat} {N : List Gd} {gs : List Int} (h0 : 0 ≤ p) (h8 : p ≤ 8) (s1 : 1 ≤ ns) (s2 : ns ≤ 256) (hl : gs.length = ns) (hf : N.length ≤ 4096) (hn : ∀ k,k < N.length → NdMay p ns N k) (ho : N.Nodup) (hg : ∀ k,k < gs.length → FitG ns N N.length (-1) (gs.getD k 0)) : MayG p ns N gs := by
 refine ⟨h0,h8,s1,s2,hl,hf,fun i P lo hi e => ?_,ho,fun g hm => ?_⟩
 ·have hi1 := (List.getElem?_eq_some_iff.1 e).1
  have := hn i hi1
  unfold NdMay at this
  simpa [List.getD_eq_getElem?_getD,e] using this
 ·obtain ⟨i,hi,rfl⟩ := List.getElem_of_mem hm
  simpa [List.getD_eq_getElem?_getD,List.getElem?_eq_getElem hi] using hg i hi
theorem qdL {N : List Gd} {j k : Nat} (hj : j < k) (hk : k < N.length) (he : N.getD j (0,0,0) = N.getD k (0,0,0)) : ¬ N.Nodup := by
 intro h
 have ej : N[j]? = some N[j] := List.getElem?_eq_getElem (by omega)
 have ek : N[k]? = some N[k] := List.getElem?_eq_getElem hk
 simp only [List.getD_eq_getElem?_getD,ej,ek,Option.getD_some] at he
 exact List.pairwise_iff_getElem.1 h j k (by omega) hk hj he
structure NdB (w : World) (g : Nat) (P lo hi : Int) : Prop where
 c0 : w.cell? ⟨g,0,none⟩ = some (.int .i64 P)
 c1 : w.cell? ⟨g,1,none⟩ = some (.int .i64 lo)
 c2 : w.cell? ⟨g,2,none⟩ = some (.int .i64 hi)
theorem qfV (w : World) (P lo hi : Int) : NdB (w.alloc (.cells #[.int .i64 P,.int .i64 lo,.int .i64 hi] 57 (0,0))) w.heap.size P lo hi := by
 have h := (MapKept.heap_alloc w (.cells #[.int .i64 P,.int .i64 lo,.int .i64 hi] 57 (0,0))).1
 exact ⟨qb h 0,qb h 1,qb h 2⟩
end Go.Proofs.YtailhklbmenaoaaGreatDoor
