/- Texts of the proof, put together: what it uses. -/
import Derived.Lib.SmallJoins
import Derived.Test.YtailhklbmenaoaaGreatDoorX00
import Derived.Test.YtailhklbmenaoaaGreatDoorX03
import Derived.Test.YtailhklbmenaoaaGreatDoorX08
import Derived.Test.YtailhklbmenaoaaGreatDoorX09
set_option maxRecDepth 100000
set_option maxHeartbeats 16000000
namespace Go.Proofs.YtailhklbmenaoaaGreatDoor
open Go.RowKit Go.Maps
def Tab10 (w : World) : Prop := Lib.TabIs Tryz.prog w "internal/strconv.uint64pow10" .u64 Lib.pow10Tab
def ptG:Nat:=0
theorem q2R : Tryz.prog.globalNamed "internal/strconv.uint64pow10" = some ptG := by kernel_rfl
theorem Tab10.up{w w':World}(h:Tab10 w)(hb:Below w.heap.size w w'):Tab10 w':=Joins.tab_stays q2R h hb nlr
theorem Tab10.lt{w:World}(h:Tab10 w):ptG<w.heap.size:=by
 have h2:=h;unfold Tab10 Lib.TabIs World.var? at h2;rw[q2R]at h2;rcases Nat.lt_or_ge ptG w.heap.size with h'|h'
 ·exact h'
 ·simp only[Option.bind_some]at h2
  rw[Array.getElem?_eq_none h']at h2;cases h2
theorem Tab10.keep{w w':World}(h:Tab10 w)(hk:w'.heap[ptG]? =w.heap[ptG]?):Tab10 w':=by
 unfold Tab10 Lib.TabIs World.var? at h ⊢;rw[q2R]at h ⊢;simp only[Option.bind_some]at h ⊢
 rw[hk];exact h
theorem q9X{w:World}{base e size n:Nat}{v:Value}{xs:List Value}(h:w.ownsRow base e size v n xs):∃a c,v=.slice a n c:=by
 rcases h.2 with⟨rfl,rfl⟩|⟨g,cap,cur,rfl,_⟩
 ·exact⟨none,0,rfl⟩
 ·exact⟨_,cap,rfl⟩
def AuQ (B n u:Nat) (xs:List Value) (w:World) (e:Ending) (w':World):Prop:=∃a c,e=.returned (.slice a (n+(Lib.decDigits u).length) c)/\w'.ownsRow B 5 1 (.slice a (n+(Lib.decDigits u).length) c) (n+(Lib.decDigits u).length) (xs++Lib.byteCells (Lib.decDigits u))/\Below B w w'
theorem qaL(B n u:Nat)(hu:u<2 ^ 64)(sv:Value)(xs:List Value)(w:World)(hown:w.ownsRow B 5 1 sv n xs)(hBw:B<=w.heap.size)(hlim:n<=1000000)(ht:Tab10 w):
  Calls Tryz.prog 153 #[sv,.int .u64 u,.int .i64 10] w (AuQ B n u xs w):=by
 by_cases h:u<100
 ·refine (q1Y B n u h sv xs w hown hBw (by omega)).mono ?_
  rintro e w' ⟨v',rfl,h1,h2,_⟩
  obtain⟨a,c,rfl⟩:=q9X h1;exact⟨a,c,rfl,h1,h2⟩
 ·refine (q28 B n u (by omega) (by omega) sv xs w hown hBw (by omega) ht).mono ?_
  rintro e w' ⟨v',rfl,h1,h2,_⟩
  obtain⟨a,c,rfl⟩:=q9X h1;exact⟨a,c,rfl,h1,h2⟩
theorem qaM(B n u:Nat)(hu:u<2 ^ 64)(a:Option Addr)(c:Nat)(xs:List Value)(w:World)(hown:w.ownsRow B 5 1 (.slice a n c) n xs)(hBw:B<=w.heap.size)(hlim:n<=1000000)(ht:Tab10 w):
  Calls Tryz.prog 128 #[.slice a n c,.int .u64 (u:Int),.int .i64 10] w (AuQ B n u xs w):=by
 have hj:=qaL B n u hu _ xs w hown hBw hlim ht;obtain⟨U,hU⟩:∃U:Int,U=(u:Int):=⟨_,rfl⟩
 rw[<-hU]at hj ⊢;obtain⟨Q,hQ⟩:∃Q,Q=AuQ B n u xs w:=⟨_,rfl⟩
 rw[<-hQ]at hj ⊢
 have HX:Hid (∀e w',Q e w'->∃a c m,e=.returned (.slice a m c)):=fun e w' h=>by
  rw[hQ]at h;obtain⟨a,c,h1,_⟩:=h;exact⟨a,c,_,h1⟩
 clear hQ hU hown hBw hlim ht hu;go_enter Tryz.func128,Tryz.ntmps128
 go_wp2_with fail
 refine hj.mono ?_
 intro e w' hq;obtain⟨a',c',m',rfl⟩:=HX.out e w' hq;have HE:Hid _:=hq;clear hq hj HX;go_wp2;exact HE.out
theorem qbI:(Tryz.prog.info? 5).map (fun i=>(i.zero,i.size,i.bytes))=some (some (.int .u8 0),1,1):=by kernel_rfl
theorem qei{w:World}{base n:Nat}{v:Value}{l:List UInt8}(h:w.ownsRow base 5 1 v n (Lib.byteCells l)):(convert 187 9 v).run Tryz.prog w=.ok (.string ⟨l.toArray⟩) w:=by
 have hl:l.length=n:=by have:=h.1;simpa [Lib.byteCells] using this
 rcases h.2 with⟨rfl,h0⟩|⟨g,cap,cur,hv,hg,hcell,hnc,hcm,hsz,htk⟩
 ·obtain rfl:l=[]:=List.eq_nil_of_length_eq_zero (by omega)
  rw[run_convert_bytes_string w 187 9 5 none 0 0 Tryz.underlying187 Tryz.underlying5 Tryz.underlying9];simp[Conv.bytesToString]
  rfl
 ·subst hv hl
  exact run_convert_bytes_back (P:=Tryz.prog) w 187 9 5 ⟨g,0,none⟩ cap l Tryz.underlying187 Tryz.underlying5 Tryz.underlying9 (fun j hj=>by
   have hk:(cur.toList.take (l.length*1))[j]? =some (.int .u8 (l[j].toNat:Int)):=by rw[htk];simp[Lib.byteCells,hj]
   rw[List.getElem?_take,if_pos (by omega)]at hk
   rw[qg,Nat.zero_add];simp[World.cell?,hcell]
   rw[show cur[j]? =cur.toList[j]? by simp,hk])
structure TxI (w:World) (L:List Nat) (k m:Nat) (v:Value) (wr:World):Prop where
 len:m=(txtD (L.take k)).length
 own:wr.ownsRow w.heap.size 5 1 v m (Lib.byteCells (txtD (L.take k)))
 bel:Below w.heap.size w wr
theorem qbu(a:Option Addr)(n c:Nat)(L:List Nat)(w:World)(hU:USl w a n c L)(hs:Sm L)(hn:n<=1024)(ht:Tab10 w):
  Calls Tryz.prog 97 #[.slice a n c] w fun e w'=>e=.returned (.string (txS L))/\Below w.heap.size w w':=by
 have hln:=hU.len;have HT:Hid _:=ht;have HU:Hid _:=hU;have HS:Hid _:=hs;have HL:Hid _:=hln;obtain⟨X,hX⟩:∃X,X=txS L:=⟨_,rfl⟩
 rw[<-hX];have HX:Hid _:=hX;have HI0:Hid (TxI w L 0 0 (.slice none 0 0) w):=⟨rfl,⟨rfl,Or.inl ⟨rfl,rfl⟩⟩,Below.refl _ _⟩;clear hU hs ht hln hX;go_enter Tryz.func97,Tryz.ntmps97
 go_wp2
 go_loopw [8,3] (fun j t wr=>∃(k m d:Nat) (b:Option Addr),k<=n/\j=.int .i64 (k:Int)/\t=.slice b m d/\Hid (TxI w L k m (.slice b m d) wr)) (fun j _ _=>n-(intOf j).toNat)
 case atStart=>exact⟨0,0,0,none,Nat.zero_le _,rfl,rfl,HI0⟩
 case round=>
  clear HI0;obtain⟨k,m,d,b,hk,rfl,rfl,HI⟩:=hrel;by_cases hlt:k<n
  ·have hL:=HL.out
   have hU2:=HU.out.up HI.out.bel;have hce:=hU2.cell k hlt;have hidx:=fun w'=>HU.out.idx n k w' hlt nlr
   have hgd:(iU L).getD k 0=((L.getD k 0:Nat):Int):=by
    unfold iU;simp only[List.getD_eq_getElem?_getD,List.getElem?_map]
    rcases L[k]? with _|x<;>rfl
   have hlk:k<L.length:=by omega
   have hgl:L.getD k 0=L[k]:=by simp[List.getD_eq_getElem?_getD,List.getElem?_eq_getElem hlk]
   rw[hgd]at hce;have hu:L.getD k 0<2 ^ 64:=by rw[hgl];exact HS.out _ (List.getElem_mem hlk)
   have hml:m<=21504:=by
    rw[HI.out.len];have h1:=q7C (L.take k) fun z hz=>HS.out z (List.mem_of_mem_take hz)
    have:(L.take k).length<=1024:=by simp;omega
    omega
   have hbw:=HI.out.bel.size;have jA:=qaM w.heap.size m (L.getD k 0) hu b d _ wr HI.out.own hbw (by omega) (Tab10.up HT.out HI.out.bel)
   have HN:Hid (∀e w1,AuQ w.heap.size m (L.getD k 0) (Lib.byteCells (txtD (L.take k))) wr e w1->∃a1 c1 m1,e=.returned (.slice a1 m1 c1)/\m1<=30000/\w.heap.size<=w1.heap.size/\w1.ownsRow w.heap.size 5 1 (.slice a1 m1 c1) m1 (Lib.byteCells (txtD (L.take k)++Lib.decDigits (L.getD k 0))) /\
     ∀v' w2,w2.ownsRow w.heap.size 5 1 v' (m1+1) (Lib.byteCells (txtD (L.take k)++Lib.decDigits (L.getD k 0))++[.int .u8 32])->(w1.alloc (.cells #[.int .u8 32] 5)).grownBy w2 (Value.slice a1 m1 c1).ownBlock->TxI w L (k+1) (m1+1) v' w2):=fun e w1 hq=>by
    obtain⟨a1,c1,h1,h2,h3⟩:=hq;have hdl:=qdQ hu;rw[<-Lib.byteCells_append]at h2;refine⟨a1,c1,_,h1,by omega,Nat.le_trans hbw h3.size,h2,fun v' w2 h4 h5=>?_⟩
    have ht:L.take (k+1)=L.take k++[L.getD k 0]:=by rw[List.take_add_one,lge hlk,hgl];rfl
    have hbc:Lib.byteCells (txtD (L.take k)++Lib.decDigits (L.getD k 0))++[.int .u8 32]=Lib.byteCells (txtD (L.take (k+1))):=by
     rw[ht,qaI];simp[Lib.byteCells]
    refine⟨?_,by rw[<-hbc];exact h4,?_⟩
    ·have:=h4.1
     rw[hbc]at this;simpa [Lib.byteCells] using this.symm
    ·have hb1:Below w.heap.size w w1:=HI.out.bel.trans h3
     refine (hb1.alloc hb1.size _).grown h5 ?_ fun g hg=>q3o h2 g hg
     simp
     exact Nat.le_succ_of_le hb1.size
   have hbyte:∀w1:World,(w1.alloc (.cells #[.int .u8 32] 5)).cell? ⟨w1.heap.size,0,none⟩=some (.int .u8 32):=fun w1=>qb (mha w1 _).1 0
   have hOA:∀(w1:World) (a1:Option Addr) (m1 c1:Nat) (xs:List Value),w1.ownsRow w.heap.size 5 1 (.slice a1 m1 c1) m1 xs->(w1.alloc (.cells #[.int .u8 32] 5)).ownsRow w.heap.size 5 1 (.slice a1 m1 c1) m1 xs:=fun w1 a1 m1 c1 xs h=>World.ownsRow.alloc h _
   clear HI hgd hgl hU2 hL hlk hu hml hbw;generalize L.getD k 0=u at *;generalize adOf a k=ad at *;obtain⟨ga,oa,sa⟩:=ad
   go_wp2_with fail
   refine jA.mono ?_
   intro e w1 hq;obtain⟨a1,c1,m1,rfl,hm1,hs1,ho1,hfin⟩:=HN.out e w1 hq;have HF:Hid _:=hfin;have hO:=hOA w1 a1 m1 c1 _ ho1;have hB:=hbyte w1;clear jA hq HN hfin ho1 hce hidx hOA hbyte;generalize Lib.byteCells (txtD (L.take k)++Lib.decDigits u)=xs at *
   go_wp2_with (at_builtin;refine q2z Tryz.underlying187 qbI rfl (by decide) rfl _ _ rfl w.heap.size _ m1 xs (.int .u8 32) w1.heap.size rfl rfl hO hB rfl (by omega) (by simp;omega) ?_)
   intro v2 w2 hown2 hgr2 _;obtain⟨a2,c2,rfl⟩:=q9X hown2;have HI2:Hid _:=HF.out _ w2 hown2 hgr2;clear hown2 hgr2 HF hO hB;go_wp2
   go_roundw
   case rel=>exact⟨k+1,m1+1,c2,a2,by omega,by go_num,rfl,HI2⟩
   case measure=>simp[intOf]<;>omega
  ·obtain rfl:k=n:=by omega
   have hfin:(convert 187 9 (.slice b m d)).run Tryz.prog wr=.ok (.string X) wr:=by
    have:=qei HI.out.own
    rw[this,HX.out];unfold txS;rw[List.take_of_length_le (by have:=HL.out;omega)]
   have HB:Hid _:=HI.out.bel;clear HI HU HS HT HL HX;go_wp2;go_ret
   exact⟨rfl,HB.out⟩
end Go.Proofs.YtailhklbmenaoaaGreatDoor
