import Derived.Test.YtoioiellaomonaaGreatDoorZ00
import Derived.Test.YtoioiellaomonaaGreatDoorZ03
set_option maxRecDepth 100000
set_option maxHeartbeats 16000000
namespace Go.Proofs.YtoioiellaomonaaGreatDoor
open Go.RowKit Go.Maps Tryz
variable {ts:List Tk}{k op g o len cap:Nat}{P:Program}{T:TypeId}{w w':World}{a:Option Addr}{ps:List Pt}
theorem W9(h:k<ts.length)(hp:dD false (ts.take k)=true):dD false (ts.take (k+1))=gV (gW false (ts.take k)) ts[k].1 ts[k].2:=by
 rw[List.take_add_one,kU h]
 show dD false (ts.take k++[ts[k]])=_
 rw[LK,hp,NM,Bool.true_and]
theorem Um(h:dD false (ts.take k)=false):dD false ts=false:=by
 have:dD false (ts.take k++ts.drop k)=false:=by rw[LK,h,Bool.false_and]
 rwa [List.take_append_drop]at this
theorem iu(h:k+1<=ts.length):gW false (ts.take (k+1))=decide ((ts[k]'(by omega)).1=2):=by
 rw[List.take_add_one,kU (by omega)]
 show gW false (ts.take k++[ts[k]])=_
 rw[VP]
theorem Hg{b:Bool}{p:Nat}(h:op≠2)(h3:op≠3)(h9:op≠9)(h10:op≠10)(h13:op≠13)(h14:op≠14)(h6:op=6->b=true):gV b op p=(decide (op<=23)&&decide (p=0)):=by
 unfold gV;rw[if_neg h,if_neg (by omega),if_neg]
 rintro⟨e,e'⟩
 rw[h6 e]at e'
 cases e'
theorem LN(a:Option Addr)(len cap:Nat)(ts:List Tk)(w:World)(hT:bG w a len cap ts)(hln:len<=1000000):
  Calls prog 118 #[.slice a len cap] w fun e w'=>e=.returned (.bool (dD false ts))/\Below w.heap.size w w':=by
 have hlen:=hT.hlen;have HT:=aX hT;have HLEN:=aX hlen;clear hT hlen;go_enter func118,ntmps118
 go_wp2
 go_loopw [7] (fun i wr=>∃k:Nat,k<=len/\i=.int .i64 k/\Hid (dD false (ts.take k)=true)/\Hid (Below w.heap.size w wr)) (fun i _=>len-(intOf i).toNat)
 case atStart=>exact⟨0,Nat.zero_le _,rfl,rfl,Below.refl _ _⟩
 case round=>
  obtain⟨k,hk,rfl,HF,HW⟩:=hrel;by_cases hlt:k<len
  ·have hxl:k<ts.length:=by have:=HLEN.out;omega
   obtain⟨g1,o1,s1,hi1,hx0,hx1,hg1,_⟩:=(HT.out.up HW.out).at underlying22 qD k hlt;have hidx:=fun w'=>hi1 len w' hlt
   clear hi1;have fQ:Hid (dD false (ts.take (k+1))=gV (gW false (ts.take k)) ts[k].1 ts[k].2):=W9 hxl HF.out;have lV:Hid (dD false (ts.take (k+1))=false->dD false ts=false):=fun h=>Um h
   have hpv:k=0\/∃j,j+1=k/\∃(g2 o2:Nat) (s2:_) (q:Nat),(∀w',(Instr.indexAt 22 (.slice a len cap) (.int .i64 j)).run prog w'=.ok (.pointer (some ⟨g2,o2,s2⟩)) w')/\wr.cell? ⟨g2,o2,s2⟩=some (.int .u8 q)/\gW false (ts.take k)=decide (q=2):=by
    cases k with
    |zero=>exact Or.inl rfl
    |succ j=>
     obtain⟨g2,o2,s2,hi2,hy0,_,_⟩:=(HT.out.up HW.out).at underlying22 qD j (by omega)
     exact Or.inr ⟨j,rfl,g2,o2,s2,_,fun w'=>hi2 len w' (by omega),hy0,iu (by omega)⟩
   have Ew:Hid _:=hpv;clear hpv;have HB1:Hid (Below w.heap.size w (wr.alloc (.cells #[.int .u8 (ts[k].1:Int),.int .u8 (ts[k].2:Int)] 42))):=qe HW.out (qd _ _);generalize ts[k]=q at *;obtain⟨op,p⟩:=q;dsimp only at hx0 hx1 fQ HB1
   by_cases e2:op=2
   ·subst e2
    clear Ew;have rC:Hid (dD false (ts.take (k+1))=decide (p<8)):=fQ.out;clear fQ;by_cases hp:p<8
    ·have HZ:Hid (dD false (ts.take (k+1))=true):=rC.out.trans (decide_eq_true hp)
     have q8:¬(8:Int)<=(p:Int):=by omega
     go_wp2
     go_roundw
     case rel=>exact⟨k+1,by omega,by go_num,HZ,HB1⟩
     case measure=>simp[intOf]<;>omega
    ·have HZ:Hid (dD false (ts.take (k+1))=false):=rC.out.trans (decide_eq_false hp)
     have q8:(8:Int)<=(p:Int):=by omega
     go_wp2;go_ret
     exact⟨by rw[lV.out HZ.out];rfl,HB1.out⟩
   have q2:((op:Int)==2)=false:=by rw[lu];omega
   by_cases e3:op=3
   ·subst e3
    have HZ:Hid (dD false (ts.take (k+1))=false):=fQ.out;clear Ew fQ q2;go_wp2;go_ret
    exact⟨by rw[lV.out HZ.out];rfl,HB1.out⟩
   by_cases e9:op=9
   ·subst e9
    have HZ:Hid (dD false (ts.take (k+1))=false):=fQ.out;clear Ew fQ q2;go_wp2;go_ret
    exact⟨by rw[lV.out HZ.out];rfl,HB1.out⟩
   by_cases e10:op=10
   ·subst e10
    have HZ:Hid (dD false (ts.take (k+1))=false):=fQ.out;clear Ew fQ q2;go_wp2;go_ret
    exact⟨by rw[lV.out HZ.out];rfl,HB1.out⟩
   by_cases e13:op=13
   ·subst e13
    have HZ:Hid (dD false (ts.take (k+1))=false):=fQ.out;clear Ew fQ q2;go_wp2;go_ret
    exact⟨by rw[lV.out HZ.out];rfl,HB1.out⟩
   by_cases e14:op=14
   ·subst e14
    have HZ:Hid (dD false (ts.take (k+1))=false):=fQ.out;clear Ew fQ q2;go_wp2;go_ret
    exact⟨by rw[lV.out HZ.out];rfl,HB1.out⟩
   have q3:((op:Int)==3)=false:=by rw[lu];omega
   have q9:((op:Int)==9)=false:=by rw[lu];omega
   have q10:((op:Int)==10)=false:=by rw[lu];omega
   have q13:((op:Int)==13)=false:=by rw[lu];omega
   have ix:((op:Int)==14)=false:=by rw[lu];omega
   by_cases e6:op=6
   ·subst e6
    clear q2 q3 q9 q10 q13 ix;rcases Ew.out with hk0|⟨j,hjk,g2,o2,s2,q,hj,hc,hl⟩
    ·have HZ:Hid (dD false (ts.take (k+1))=false):=by show _=_;rw[fQ.out,hk0];rfl
     have hn0:((k:Int)==0)=true:=by rw[beq_iff_eq];omega
     clear hk0;clear Ew fQ;go_wp2;go_ret
     exact⟨by rw[lV.out HZ.out];rfl,HB1.out⟩
    ·have hsub:IntKind.i64.wrap ((k:Int)-1)=(j:Int):=by rw[IntKind.wrap_i64];omega
     have hn0:((k:Int)==0)=false:=by rw[lu];omega
     have HL:Hid _:=hl;clear hl Ew;have hcA:∀o,(wr.alloc o).cell? ⟨g2,o2,s2⟩=some (.int .u8 q):=fun o=>qf hc (qd _ _)
     by_cases hq:q=2
     ·subst hq
      have hfa:=Hg (b:=true) (op:=6) (p:=p) (by decide) (by decide) (by decide) (by decide) (by decide) (by decide) (fun _=>rfl)
      have rC:Hid (dD false (ts.take (k+1))=decide (p=0)):=by show _=_;rw[fQ.out,HL.out];exact hfa
      clear fQ hfa HL;by_cases hp:p=0
      ·subst hp
       have HZ:Hid (dD false (ts.take (k+1))=true):=rC.out;go_wp2
       go_roundw
       case rel=>exact⟨k+1,by omega,by go_num,HZ,HB1⟩
       case measure=>simp[intOf]<;>omega
      ·have HZ:Hid (dD false (ts.take (k+1))=false):=rC.out.trans (decide_eq_false hp)
       have q0:((p:Int)==0)=false:=by rw[lu];omega
       have q0n:((p:Int) != 0)=true:=by rw[bne_iff_ne];omega
       go_wp2;go_ret
       exact⟨by rw[lV.out HZ.out];rfl,HB1.out⟩
     ·have HZ:Hid (dD false (ts.take (k+1))=false):=by show _=_;rw[fQ.out,HL.out,decide_eq_false hq];rfl
      have qq:((q:Int)==2)=false:=by rw[lu];omega
      have qqn:((q:Int) != 2)=true:=by rw[bne_iff_ne];omega
      clear fQ HL;go_wp2;go_ret
      exact⟨by rw[lV.out HZ.out];rfl,HB1.out⟩
   have q6:((op:Int)==6)=false:=by rw[lu];omega
   have rC:Hid (dD false (ts.take (k+1))=(decide (op<=23)&&decide (p=0))):=fQ.out.trans (Hg e2 e3 e9 e10 e13 e14 (fun h=>absurd h e6))
   clear fQ Ew;by_cases h23:op<=23
   ·have q23:¬(23:Int)<(op:Int):=by omega
    by_cases hp:p=0
    ·subst hp
     have HZ:Hid (dD false (ts.take (k+1))=true):=by show _=_;rw[rC.out,decide_eq_true h23];rfl
     go_wp2
     go_roundw
     case rel=>exact⟨k+1,by omega,by go_num,HZ,HB1⟩
     case measure=>simp[intOf]<;>omega
    ·have HZ:Hid (dD false (ts.take (k+1))=false):=by show _=_;rw[rC.out,decide_eq_false hp,Bool.and_false]
     have q0:((p:Int)==0)=false:=by rw[lu];omega
     have q0n:((p:Int) != 0)=true:=by rw[bne_iff_ne];omega
     go_wp2;go_ret
     exact⟨by rw[lV.out HZ.out];rfl,HB1.out⟩
   ·have q23:(23:Int)<(op:Int):=by omega
    have HZ:Hid (dD false (ts.take (k+1))=false):=by show _=_;rw[rC.out,decide_eq_false h23];rfl
    go_wp2;go_ret
    exact⟨by rw[lV.out HZ.out];rfl,HB1.out⟩
  ·obtain rfl:k=len:=by omega
   have HZ:Hid (dD false ts=true):=by
    show _=_
    have:=HF.out
    rwa [List.take_of_length_le (by have:=HLEN.out;omega)]at this
   go_wp2;go_ret
   exact⟨by rw[HZ.out];rfl,HW.out⟩
def iq(t:Tk):Int:=match bI t with|none=>-1|some n=>(n:Int)
theorem LO(op:Nat)(w:World):
  Calls prog 131 #[.int .u8 op] w fun e w'=>e=.returned (.bool (dw op))/\w'=w:=by
 by_cases h:19<=op
 ·have HX:Hid (dw op=true):=decide_eq_true h
  have h1:(19:Int)<=(op:Int):=by omega
  go_enter func131,ntmps131
  go_wp2;go_ret
  exact⟨by rw[HX.out];rfl,rfl⟩
 ·have HX:Hid (dw op=false):=decide_eq_false h
  have h1:decide ((19:Int)<=(op:Int))=false:=decide_eq_false (by omega)
  go_enter func131,ntmps131
  go_wp2;go_ret
  exact⟨by rw[HX.out];rfl,rfl⟩
theorem LR(op:Nat)(w:World)(hop:op<=23):
  Calls prog 132 #[.int .u8 op] w fun e w'=>e=.returned (.bool (aU op))/\w'=w:=by
 rcases ND hop with rfl|rfl|rfl|rfl|rfl|rfl|rfl|rfl|rfl|rfl|rfl|rfl|rfl|rfl|rfl|rfl|rfl|rfl|rfl|rfl|rfl|rfl|rfl|rfl <;>
 ·go_enter func132,ntmps132
  go_wp2;go_ret
  exact⟨rfl,rfl⟩
theorem LS (op p : Nat) (w : World) (hop : op ≤ 23) (hp : p < 256):
    Calls prog 62 #[.agg #[.int .u8 (op : Int), .int .u8 (p : Int)]] w fun e w'=> e = .returned (.int .i64 (iq (op, p))) ∧ Below w.heap.size w w' := by
  by_cases h2 : op = 2
  · subst h2
    by_cases iz : 7 < p
    · have HX : Hid (iq (2, p) = -1) := by show _ = _; simp [iq, bI, iz]
      have h7 : (7 : Int) < (p : Int) := by omega
      go_enter func62, ntmps62
      go_wp2
      go_ret
      exact ⟨by rw [HX.out]; rfl, qd _ _⟩
    · have HX : Hid (iq (2, p) = 0) := by show _ = _; simp [iq, bI, iz]
      have h7 : decide ((7 : Int) < (p : Int)) = false := decide_eq_false (by omega)
      go_enter func62, ntmps62
      go_wp2
      go_ret
      exact ⟨by rw [HX.out]; rfl, qd _ _⟩
  · by_cases hp0 : p = 0
    · subst hp0
      rcases ND hop with rfl | rfl | rfl | rfl | rfl | rfl | rfl | rfl | rfl | rfl | rfl | rfl | rfl | rfl | rfl | rfl | rfl | rfl | rfl | rfl | rfl | rfl | rfl | rfl <;>
      first
      |exact absurd rfl h2
      | (go_enter func62, ntmps62
         go_wp2
         go_ret
         exact ⟨rfl, qd _ _⟩)
    · have HX : Hid (iq (op, p) = -1) := by show _ = _; simp [iq, bI, h2, hp0]
      have h3 : ((op : Int) != 2) = true := by simp; omega
      have h4 : ((p : Int) != 0) = true := by simp; omega
      have h5 : decide ((23 : Int) < (op : Int)) = false := decide_eq_false (by omega)
      go_enter func62, ntmps62
      go_wp2
      go_ret
      exact ⟨by rw [HX.out]; rfl, qd _ _⟩
theorem iN(op p:Nat)(w:World)(hp:p<256):
  Calls prog 62 #[.agg #[.int .u8 op,.int .u8 p]] w fun e w'=>e=.returned (.int .i64 (iq (op,p)))/\Below w.heap.size w w':=by
 by_cases hop:op<=23
 ·exact LS op p w hop hp
 ·have HX:Hid (iq (op,p)=-1):=by show _=_;unfold iq bI;rw[if_pos (Or.inl (by omega))]
  have h5:(23:Int)<(op:Int):=by omega
  go_enter func62,ntmps62
  go_wp2;go_ret
  exact⟨by rw[HX.out];rfl,qd _ _⟩
structure lW(P:Program)(T:TypeId)(w:World)(a:Option Addr)(g o len cap:Nat)(ps:List Pt):Prop where
 hlen:ps.length=len
 hcap:len<=cap
 bd:cap<=maxLen
 idx:∀(n k:Nat)(w:World),k<n->n<=len->(Instr.indexAt T (.slice a n cap) (.int .i64 k)).run P w=.ok (.pointer (some ⟨g,o+4*k,none⟩)) w
 c0:∀k (h:k<ps.length),w.cell? ⟨g,o+4*k,none⟩=some (.bool ps[k].path)
 c1:∀k (h:k<ps.length),w.cell? ⟨g,o+4*k+1,none⟩=some (.bool ps[k].plain)
 c2:∀k (h:k<ps.length),w.cell? ⟨g,o+4*k+2,none⟩=some (.int .i64 (ps[k].dep:Int))
 c3:∀k (h:k<ps.length),w.cell? ⟨g,o+4*k+3,none⟩=some (.int .i64 (ps[k].yH:Int))
 blk:0<len->g<w.heap.size
theorem lW.later(h:lW P T w a g o len cap ps){B:Nat}(hb:Below B w w')(hB:0<len->g<B):lW P T w' a g o len cap ps :=
 ⟨h.hlen,h.hcap,h.bd,h.idx,fun k hk=>(hb.cell (hB (by have:=h.hlen;omega))).trans (h.c0 k hk),fun k hk=>(hb.cell (hB (by have:=h.hlen;omega))).trans (h.c1 k hk),fun k hk=>(hb.cell (hB (by have:=h.hlen;omega))).trans (h.c2 k hk),fun k hk=>(hb.cell (hB (by have:=h.hlen;omega))).trans (h.c3 k hk),fun hk=>Nat.lt_of_lt_of_le (h.blk hk) hb.size⟩
theorem lW.up(h:lW P T w a g o len cap ps)(hb:Below w.heap.size w w'):lW P T w' a g o len cap ps:=h.later hb h.blk
theorem MA(h:op=17\/op=18)(x y:Pt):bT op [x,y]=(x.path && !y.path):=by unfold bT;rw[if_pos h]
theorem MD(x:Pt):bT 19 [x]=(!x.path&&x.plain):=by rfl
theorem ME(h:op=21\/op=22)(x y:Pt):bT op [x,y]=(x.path&&y.path):=by rcases h with rfl|rfl<;>rfl
theorem MU(x:Pt):bT 23 [x]=x.path:=by rfl
theorem MY(h1:op≠17)(h2:op≠18)(h3:op≠19)(h4:op≠21)(h5:op≠22)(h6:op≠23)(a:List Pt):bT op a=a.all fun x=>!x.path:=by
 unfold bT;rw[if_neg (by omega),if_neg h3,if_neg (by omega),if_neg h6]
theorem M7(op:Nat)(a:Option Addr)(g o len cap:Nat)(ps:List Pt)(w:World)(hS:lW prog 129 w a g o len cap ps)(hl2:len<=2)(h1:op≠17)(h2:op≠18)(h3:op≠19)(h4:op≠21)(h5:op≠22)(h6:op≠23):
  Calls prog 106 #[.int .u8 op,.slice a len cap] w fun e w'=>e=.returned (.bool (bT op ps))/\∃n,w'=w.drewN n:=by
 have HX:Hid _:=MY h1 h2 h3 h4 h5 h6 ps;have q1:((op:Int)==17)=false:=by rw[lu];omega
 have q2:((op:Int)==18)=false:=by rw[lu];omega
 have q3:((op:Int)==19)=false:=by rw[lu];omega
 have q4:((op:Int)==21)=false:=by rw[lu];omega
 have q5:((op:Int)==22)=false:=by rw[lu];omega
 have q6:((op:Int)==23)=false:=by rw[lu];omega
 have hidx:=fun (k:Nat) (w:World) (h:k<len)=>hS.idx len k w h bZ
 have hlen:=hS.hlen;clear h1 h2 h3 h4 h5 h6;go_enter func106,ntmps106
 go_wp2
 go_loopw [5] (fun i wr=>∃k:Nat,k<=len/\i=.int .i64 k/\Hid ((ps.take k).all (fun x=>!x.path)=true)/\Hid (∃n,wr=w.drewN n)) (fun i _=>len-(intOf i).toNat)
 case atStart=>exact⟨0,Nat.zero_le _,rfl,by show _=_;simp,0,rfl⟩
 case round=>
  obtain⟨k,hk,rfl,HU,hwr⟩:=hrel;by_cases hlt:k<len
  ·have hkl:k<ps.length:=by omega
   have hc:=(hS.up (WL hwr.out)).c0 k hkl
   have HN:Hid (ps[k].path=false->(ps.take (k+1)).all (fun x=>!x.path)=true):=fun h=>by
    rw[List.take_add_one,List.getElem?_eq_getElem hkl,List.all_append,HU.out];simp[h]
   have HF:Hid (ps[k].path=true->bT op ps=false):=fun h=>by
    rw[HX.out,List.all_eq_false];exact⟨ps[k],List.getElem_mem hkl,by simp[h]⟩
   generalize ps[k].path=q at *
   cases q with
   |false=>
    go_wp2
    go_roundw
    case rel=>exact⟨k+1,by omega,by go_num,HN.out (by first|rfl|trivial),hwr⟩
    case measure=>simp[intOf];omega
   |true=>
    go_wp2;go_ret
    exact⟨by rw[HF.out (by first|rfl|trivial)];rfl,hwr.out⟩
  ·obtain rfl:k=len:=by omega
   have HT:Hid (bT op ps=true):=by
    rw[HX.out];have:=HU.out;rw[List.take_of_length_le (by omega)]at this;exact this
   go_wp2;go_ret
   exact⟨by rw[HT.out];rfl,hwr.out⟩
theorem M8(op:Nat)(hop:op=17\/op=18)(a:Option Addr)(g o cap:Nat)(x y:Pt)(w:World)(hS:lW prog 129 w a g o 2 cap [x,y]):
  Calls prog 106 #[.int .u8 op,.slice a 2 cap] w fun e w'=>e=.returned (.bool (bT op [x,y]))/\∃n,w'=w.drewN n:=by
 have HX:Hid _:=MA hop x y;have hi0:∀w,(Instr.indexAt 129 (.slice a 2 cap) (.int .i64 0)).run prog w=.ok (.pointer (some ⟨g,o+4*0,none⟩)) w:=fun w=>hS.idx 2 0 w (by decide) (by decide)
 have hi1:∀w,(Instr.indexAt 129 (.slice a 2 cap) (.int .i64 1)).run prog w=.ok (.pointer (some ⟨g,o+4*1,none⟩)) w:=fun w=>hS.idx 2 1 w (by decide) (by decide)
 have hc0:w.cell? ⟨g,o+4*0,none⟩=some (.bool x.path):=hS.c0 0 (by simp)
 have hc1:w.cell? ⟨g,o+4*1,none⟩=some (.bool y.path):=hS.c0 1 (by simp)
 generalize o+4*0=o0 at *;generalize o+4*1=o1 at *;generalize x.path=p at *;generalize y.path=q at *;rcases hop with rfl|rfl<;>cases p<;>cases q <;>
 ·go_enter func106,ntmps106
  go_wp2;go_ret
  exact⟨by rw[HX.out];rfl,0,rfl⟩
theorem M9(op:Nat)(hop:op=21\/op=22)(a:Option Addr)(g o cap:Nat)(x y:Pt)(w:World)(hS:lW prog 129 w a g o 2 cap [x,y]):
  Calls prog 106 #[.int .u8 op,.slice a 2 cap] w fun e w'=>e=.returned (.bool (bT op [x,y]))/\∃n,w'=w.drewN n:=by
 have HX:Hid _:=ME hop x y;have hi0:∀w,(Instr.indexAt 129 (.slice a 2 cap) (.int .i64 0)).run prog w=.ok (.pointer (some ⟨g,o+4*0,none⟩)) w:=fun w=>hS.idx 2 0 w (by decide) (by decide)
 have hi1:∀w,(Instr.indexAt 129 (.slice a 2 cap) (.int .i64 1)).run prog w=.ok (.pointer (some ⟨g,o+4*1,none⟩)) w:=fun w=>hS.idx 2 1 w (by decide) (by decide)
 have hc0:w.cell? ⟨g,o+4*0,none⟩=some (.bool x.path):=hS.c0 0 (by simp)
 have hc1:w.cell? ⟨g,o+4*1,none⟩=some (.bool y.path):=hS.c0 1 (by simp)
 generalize o+4*0=o0 at *;generalize o+4*1=o1 at *;generalize x.path=p at *;generalize y.path=q at *;rcases hop with rfl|rfl<;>cases p<;>cases q <;>
 ·go_enter func106,ntmps106
  go_wp2;go_ret
  exact⟨by rw[HX.out];rfl,0,rfl⟩
theorem Ni(a:Option Addr)(g o cap:Nat)(x:Pt)(w:World)(hS:lW prog 129 w a g o 1 cap [x]):
  Calls prog 106 #[.int .u8 19,.slice a 1 cap] w fun e w'=>e=.returned (.bool (bT 19 [x]))/\∃n,w'=w.drewN n:=by
 have HX:Hid _:=MD x;have hi0:∀w,(Instr.indexAt 129 (.slice a 1 cap) (.int .i64 0)).run prog w=.ok (.pointer (some ⟨g,o+4*0,none⟩)) w:=fun w=>hS.idx 1 0 w (by decide) (by decide)
 have hc0:w.cell? ⟨g,o+4*0,none⟩=some (.bool x.path):=hS.c0 0 (by simp)
 have hc1:w.cell? ⟨g,o+4*0+1,none⟩=some (.bool x.plain):=hS.c1 0 (by simp)
 generalize o+4*0=o0 at *;generalize x.path=p at *;generalize x.plain=q at *
 cases p<;>cases q <;>
 ·go_enter func106,ntmps106
  go_wp2;go_ret
  exact⟨by rw[HX.out];rfl,0,rfl⟩
theorem Nn(a:Option Addr)(g o cap:Nat)(x:Pt)(w:World)(hS:lW prog 129 w a g o 1 cap [x]):
  Calls prog 106 #[.int .u8 23,.slice a 1 cap] w fun e w'=>e=.returned (.bool (bT 23 [x]))/\∃n,w'=w.drewN n:=by
 have HX:Hid _:=MU x;have hi0:∀w,(Instr.indexAt 129 (.slice a 1 cap) (.int .i64 0)).run prog w=.ok (.pointer (some ⟨g,o+4*0,none⟩)) w:=fun w=>hS.idx 1 0 w (by decide) (by decide)
 have hc0:w.cell? ⟨g,o+4*0,none⟩=some (.bool x.path):=hS.c0 0 (by simp)
 generalize o+4*0=o0 at *;generalize x.path=p at *;go_enter func106,ntmps106
 go_wp2;go_ret
 exact⟨by rw[HX.out];rfl,0,rfl⟩
theorem Nx(op p:Nat)(a:Option Addr)(g o len cap:Nat)(ps:List Pt)(w:World)(hS:lW prog 129 w a g o len cap ps)(ht:bI (op,p)=some len):
  Calls prog 106 #[.int .u8 op,.slice a len cap] w fun e w'=>e=.returned (.bool (bT op ps))/\∃n,w'=w.drewN n:=by
 have hl2:=TF ht;have hlen:=hS.hlen
 have two:(op=17\/op=18\/op=21\/op=22)->len=2:=fun h=>by
  unfold bI at ht
  split at ht
  ·cases ht
  ·rw[if_neg (by dsimp only;omega),if_neg (by dsimp only;omega)]at ht;injection ht with ht;omega
 have one:(op=19\/op=23)->len=1:=fun h=>by
  unfold bI at ht
  split at ht
  ·cases ht
  ·rw[if_neg (by dsimp only;omega),if_pos (by dsimp only;omega)]at ht;injection ht with ht;omega
 by_cases h1:op=17\/op=18
 ·obtain rfl:=two (by omega)
  match ps,hlen with
  | [x,y],_=>exact M8 op h1 a g o cap x y w hS
 ·by_cases h2:op=21\/op=22
  ·obtain rfl:=two (by omega)
   match ps,hlen with
   | [x,y],_=>exact M9 op h2 a g o cap x y w hS
  ·by_cases h3:op=19
   ·subst h3
    obtain rfl:=one (by omega)
    match ps,hlen with
    | [x],_=>exact Ni a g o cap x w hS
   ·by_cases h4:op=23
    ·subst h4
     obtain rfl:=one (by omega)
     match ps,hlen with
     | [x],_=>exact Nn a g o cap x w hS
    ·exact M7 op a g o len cap ps w hS hl2 (by omega) (by omega) h3 (by omega) (by omega) h4
theorem i7{cs:List Tk}(h:k<cs.length):cs.take (k+1)=cs.take k++[cs.getD k (0,0)]:=by
 rw[List.take_add_one,List.getElem?_eq_getElem h];simp[List.getD_eq_getElem?_getD,List.getElem?_eq_getElem h]
theorem ju{xs ys:List Tk}(hx:k<xs.length)(hy:k<ys.length)(h:xs.take k=ys.take k)(he:xs.getD k (0,0)=ys.getD k (0,0)):xs.take (k+1)=ys.take (k+1):=by
 rw[i7 hx,i7 hy,h,he]
theorem NA : ∃ f0 f1,(prog.fieldsOf 42).toList = [f0,f1] ∧ (f0.name = "Op" ∧ f0.type = 40 ∧ f0.offset = 0) ∧ (f1.name = "P" ∧ f1.type = 5 ∧ f1.offset = 1) := by
 have hfl : (prog.fieldsOf 42).toList.map (fun f => (f.name,f.type,f.offset)) = [("Op",40,0),("P",5,1)] := by kernel_rfl
 cases hl:(prog.fieldsOf 42).toList with
 |nil=>rw[hl]at hfl;simp at hfl
 |cons f0 r=>
  cases r with
  |nil=>rw[hl]at hfl;simp at hfl
  |cons f1 r=>
   rw[hl]at hfl;simp at hfl
   obtain⟨h0,h1,rfl⟩:=hfl;exact⟨f0,f1,rfl,h0,h1⟩
theorem NB(x0 x1 y0 y1:Nat)(w:World):(binOp .eql 42 (.agg #[.int .u8 x0,.int .u8 x1]) (.agg #[.int .u8 y0,.int .u8 y1])).run prog w=.ok (.bool (decide (((x0,x1):Tk)=(y0,y1)))) w:=by
 have ht:prog.underlying 42=some (.struct (prog.fieldsOf 42)):=by kernel_rfl
 have hp:prog.stoodInHeld 42=false:=by kernel_rfl
 rw[run_eql_struct,run_equalIn_agg _ 9999 _ _ _ ht hp];obtain⟨f0,f1,hl,⟨a1,a2,a3⟩,⟨b1,b2,b3⟩⟩:=NA;rw[hl];by_cases h0:x0=y0
 ·by_cases h1:x1=y1
  ·simp[Op.eqFields,a1,a2,a3,b1,b2,b3,go_sem,h0,h1,run_equalIn_int _ 9998 _ _ _ _ _ underlying40,run_equalIn_int _ 9998 _ _ _ _ _ underlying5]
  ·have h1':¬(x1:Int)=(y1:Int):=by omega
   simp[Op.eqFields,a1,a2,a3,b1,b2,b3,go_sem,h0,h1,h1',run_equalIn_int _ 9998 _ _ _ _ _ underlying40,run_equalIn_int _ 9998 _ _ _ _ _ underlying5]
 ·have h0':¬(x0:Int)=(y0:Int):=by omega
  simp[Op.eqFields,a1,a2,a3,go_sem,h0,h0',run_equalIn_int _ 9998 _ _ _ _ _ underlying40]
theorem jx(x0 x1 y0 y1:Nat)(w:World):(binOp .neq 42 (.agg #[.int .u8 x0,.int .u8 x1]) (.agg #[.int .u8 y0,.int .u8 y1])).run prog w=.ok (.bool (!decide (((x0,x1):Tk)=(y0,y1)))) w:=by
 have h:=NB x0 x1 y0 y1 w;rw[run_eql_struct]at h;rw[run_neq_struct]
 cases hr:(Op.equalIn 10000 42 (.agg #[.int .u8 x0,.int .u8 x1]) (.agg #[.int .u8 y0,.int .u8 y1])).run prog w with
 |ok b w1=>
  rw[hr]at h;simp[Result.andThen]at h ⊢
  obtain⟨rfl,rfl⟩:=h;exact⟨rfl,rfl⟩
 |halt x w1=>rw[hr]at h;simp[Result.andThen]at h
theorem NF(a:Option Addr)(len cap:Nat)(xs:List Tk)(a':Option Addr)(len' cap':Nat)(ys:List Tk)(w:World)
  (hS:bG w a len cap xs) (hO:bG w a' len' cap' ys):
  Calls prog 21 #[.slice a len cap,.slice a' len' cap'] w fun e w'=>e=.returned (.bool (decide (xs=ys)))/\Below w.heap.size w w':=by
 have hb0:=hS.bd;have hb1:=hS.hcap;have hb2:=hO.bd;have hb3:=hO.hcap;unfold maxLen at hb0 hb2;by_cases hll:len=len'
 ·subst hll
  go_enter func21,ntmps21
  go_wp2
  go_loopw [5] (fun i wr=>∃k:Nat,k<=len/\i=.int .i64 k/\Hid (xs.take k=ys.take k)/\Hid (Below w.heap.size w wr)) (fun i _=>len-(intOf i).toNat)
  case atStart=>exact⟨0,Nat.zero_le _,rfl,by show _=_;simp,Below.refl _ _⟩
  case round=>
   obtain⟨k,hk,rfl,HU,hwr⟩:=hrel;by_cases hlt:k<len
   ·obtain⟨g1,o1,s1,hi1,hx0,hx1,_,_⟩:=(hS.up hwr.out).at underlying22 qD k hlt
    obtain⟨g2,o2,s2,hi2,hy0,hy1,_,_⟩:=(hO.up hwr.out).at underlying22 qD k hlt;have hidx:=fun w'=>hi1 len w' hlt
    have hidx':=fun w'=>hi2 len w' hlt
    clear hi1 hi2;have hxl:k<xs.length:=by rw[hS.hlen];exact hlt
    have hyl:k<ys.length:=by rw[hO.hlen];exact hlt
    have ex:xs[k]=xs.getD k (0,0):=by simp[List.getD_eq_getElem?_getD,List.getElem?_eq_getElem hxl]
    have ey:ys[k]=ys.getD k (0,0):=by simp[List.getD_eq_getElem?_getD,List.getElem?_eq_getElem hyl]
    rw[ex]at hx0 hx1;rw[ey]at hy0 hy1;clear ex ey;have HN:Hid (xs.getD k (0,0)=ys.getD k (0,0)->xs.take (k+1)=ys.take (k+1)):=fun h=>ju (by rw[hS.hlen];exact hlt) (by rw[hO.hlen];exact hlt) HU.out h
    have HM:Hid (xs.getD k (0,0)≠ys.getD k (0,0)->decide (xs=ys)=false):=fun h=>decide_eq_false (fun e=>h (by rw[e]))
    generalize xs.getD k (0,0)=x at *;generalize ys.getD k (0,0)=y at *;obtain⟨x0,x1⟩:=x;obtain⟨y0,y1⟩:=y;have hne:=jx x0 x1 y0 y1;have HD:Hid (∀b,decide (((x0,x1):Tk)=(y0,y1))=b->b=true->((x0,x1):Tk)=(y0,y1)):=fun b h1 h2=>of_decide_eq_true (h1.trans h2)
    have HE:Hid (∀b,decide (((x0,x1):Tk)=(y0,y1))=b->b=false->((x0,x1):Tk)≠(y0,y1)):=fun b h1 h2=>of_decide_eq_false (h1.trans h2)
    generalize hq:decide (((x0,x1):Tk)=(y0,y1))=q at hne
    go_wp2_with fail
    go_quiet (fail)
    cases q with
    |false=>
     have MB:Hid _:=HM.out (HE.out false hq rfl);go_wp2;go_ret
     exact⟨by rw[MB.out];rfl,below_drewN hwr.out nq⟩
    |true=>
     have BG:Hid _:=HN.out (HD.out true hq rfl);go_wp2
     go_roundw
     case rel=>exact⟨k+1,by omega,by go_num,BG,below_drewN hwr.out nq⟩
     case measure=>simp[intOf];omega
   ·have hx:Hid (decide (xs=ys)=true):=by
     have:=HU.out
     rw[List.take_of_length_le (by rw[hS.hlen];omega),List.take_of_length_le (by rw[hO.hlen];omega)]at this
     exact decide_eq_true this
    go_wp2;go_ret
    exact⟨by rw[hx.out];rfl,hwr.out⟩
 ·have hx:Hid (decide (xs=ys)=false):=decide_eq_false (fun e=>hll (by rw[<-hS.hlen,<-hO.hlen,e]))
  have Jk:((len:Int) != (len':Int))=true:=by simp;omega
  clear hll;go_enter func21,ntmps21
  go_wp2;go_ret
  exact⟨by rw[hx.out];rfl,Below.refl _ _⟩
end Go.Proofs.YtoioiellaomonaaGreatDoor
