import Derived.Deep.RegionHeld3
import Derived.Deep.RegionLaw
import Derived.Deep.DeepCutAuto
import Derived.Test.YtoioiellaomonaaGreatDoorZ01
import Derived.Test.YtoioiellaomonaaGreatDoorZ02
import Derived.Test.YtoioiellaomonaaGreatDoorZ03
import Derived.Test.YtoioiellaomonaaGreatDoorZ05
import Derived.Test.YtoioiellaomonaaGreatDoorZ06
import Derived.Test.YtoioiellaomonaaGreatDoorZ12
set_option maxRecDepth 100000
set_option maxHeartbeats 16000000
namespace Go.Proofs.YtoioiellaomonaaGreatDoor
open Go.RowKit Go.Maps Proofs.Tryz
variable {w wr w' w1 w2:World}{ops:Array Oper}{o:Oper}{a:Option Addr}{Q:Exit->Act->World->Prop}{aj:List It}{n i cap m t mb bx base L g B r:Nat}{F G:Nat->Prop}{v:Value}{ns:List Nat}{ts:List Tk}{T:Tr}{bs:List Bool}
theorem q9H{w:World}{a:Act}{K:Act->World->Prop}{Q:Exit->Act->World->Prop}{E:Prop}(hw:Region.wanted o (yielded ops a.tmps)=true)(m x:Operand)
  (ho:o.op=.call { callee:=.builtin .delete,args:=#[m,x],argTypes:=#[83,113] }) (b n:Nat) (f:It->Option Nat) (y:It) (hm:a.eval m=.map (some b)) (hx:a.eval x=iV y)
  (h:dR w b n f) (hy:kF y) (hf:(f y).isSome=true)
  (hK:∀w',dR w' b (n-1) (fun z=>if z=y then none else f z)->w.grownBy w' (some b)->K (a.put o.dst (.tuple #[])) w'):
  if Region.wanted o (yielded ops a.tmps)=true then Oper.wp prog o a w K Q else E:=by
 rw[if_pos hw];obtain⟨w',hr,h1,h2⟩:=h.drop hy hf o.type;unfold Oper.wp execOp;simp only[ho,resolve,invoke,builtin,Sem.run_bind,Sem.run_pure,Result.andThen_ok,List.map_toArray,List.map_cons,List.map_nil,hm,hx,hr]
 exact hK w' h1 h2
def nZ(aj:List It)(n i:Nat)(y:It):Option Nat:=(gI aj y).bind fun j=>if n<=j/\j<n+i then none else some j
theorem qfP(aj:List It)(n:Nat)(y:It):gI aj y=nZ aj n 0 y:=by
 unfold nZ
 cases gI aj y with
 |none=>rfl
 |some j=>simp only[Option.bind_some];rw[if_neg (by omega)]
theorem qfO(hn:aj.Nodup)(h:n+i<aj.length)(y:It):(if y=aj[n+i] then none else nZ aj n i y)=nZ aj n (i+1) y:=by
 unfold nZ;by_cases e:y=aj[n+i]
 ·rw[if_pos e,(L8 hn (j:=n+i)).2 (by rw[e];exact kU h)]
  simp only[Option.bind_some]
  rw[if_pos (by omega)]
 ·rw[if_neg e]
  cases hp:gI aj y with
  |none=>rfl
  |some j=>
   have hj:=(L8 hn).1 hp;have:j≠n+i:=fun he=>e (by subst he;rw[kU h]at hj;injection hj with hj;exact hj.symm)
   simp only[Option.bind_some]
   by_cases c:n<=j/\j<n+i
   ·rw[if_pos c,if_pos (by omega)]
   ·rw[if_neg c,if_neg (by omega)]
theorem qf2(hn:aj.Nodup)(h:n+i<aj.length):(nZ aj n i aj[n+i]).isSome=true:=by
 unfold nZ;rw[(L8 hn (j:=n+i)).2 (List.getElem?_eq_getElem h)];simp only[Option.bind_some]
 rw[if_neg (by omega)]
 rfl
theorem qgD(hn:aj.Nodup)(h:n<=aj.length)(y:It):nZ aj n (aj.length-n) y=gI (aj.take n) y:=by
 unfold nZ
 cases hp:gI aj y with
 |none=>
  rw[Fa]at hp;exact(Fa.2 (fun hy=>hp (List.mem_of_mem_take hy))).symm
 |some j=>
  have hj:=(L8 hn).1 hp;have hl:=E0 hp;simp only[Option.bind_some]
  by_cases c:j<n
  ·rw[if_neg (by omega)]
   refine ((L8 (hn.sublist (List.take_sublist _ _))).2 ?_).symm
   rw[List.getElem?_take,if_pos c];exact hj
  ·rw[if_pos (by omega)]
   refine (Fa.2 fun hy=>?_).symm
   obtain⟨i,hi⟩:=List.mem_iff_getElem?.1 hy;rw[List.getElem?_take]at hi;by_cases ci:i<n
   ·rw[if_pos ci]at hi
    have:=Oh hn hi hj
    omega
   ·rw[if_neg ci]at hi;cases hi
theorem qhO(h:w.ownsRow 0 113 4 (.slice a n cap) n (encI aj))(hl:aj.length=n)(hm:m<=n):
  ∃a',(∀w',(Instr.sliceAt 82 (.slice a n cap) (some (.int .i64 m)) none none).run prog w'=.ok (.slice a' (n-m) (cap-m)) w') /\
   ∀k (x:It),aj[m+k]? =some x->∃g o,(∀w',(Instr.indexAt 82 (.slice a' (n-m) (cap-m)) (.int .i64 k)).run prog w'=.ok (.pointer (some ⟨g,o,none⟩)) w') /\
    ∀w':World,w'.ownsRow 0 113 4 (.slice a n cap) n (encI aj)->w'.cell? ⟨g,o,none⟩=some (.int .u8 x.op)/\w'.cell? ⟨g,o+1,none⟩=some (.int .u8 x.p)/\w'.cell? ⟨g,o+2,none⟩=some (.int .i64 x.a)/\w'.cell? ⟨g,o+3,none⟩=some (.int .i64 x.b):=by
 rcases h.2 with⟨e,e0⟩|⟨g,cap',cur,e,_,hcell,hnc,_,hsz,htk⟩
 ·injection e with e1 _ e3
  subst e1 e3 e0;obtain⟨a',h1,_⟩:=xY (P:=prog) underlying82 LZ none 0 0 m hm bZ (fun _=>rfl)
  exact⟨a',h1,fun k x hk=>absurd (List.getElem?_eq_some_iff.1 hk).1 (by omega)⟩
 ·injection e with e1 _ e3
  subst e1 e3;obtain⟨a',h1,_,h3⟩:=xY (P:=prog) underlying82 LZ (some ⟨g,0,none⟩) n cap m hm hnc (fun e=>by cases e)
  refine⟨a',h1,fun k x hx=>?_⟩
  obtain⟨hk,rfl⟩:=List.getElem?_eq_some_iff.1 hx;have ha:=h3 (by omega) _ rfl
  rw[qi,Nat.zero_add]at ha;subst ha;have hkn:k<n-m:=by omega
  refine⟨g,4*(m+k),fun w'=>?_,fun w' ho=>?_⟩
  ·simp[Instr.indexAt,run_underlying underlying82,asIntOf,qU LZ,hkn,Result.andThen,go_sem,qi,Nat.mul_comm]
  ·rcases ho.2 with⟨e,e0⟩|⟨g',cap',cur',e,_,hcell',hnc',_,hsz',Yx⟩
   ·cases e
   ·injection e with e1 _ e3
    injection e1 with e1;injection e1 with e1 _ _;subst e1
    have key:∀j,j<n*4->w'.cell? ⟨g,j,none⟩=(encI aj)[j]? := fun j hj=>by
     rw[<-Yx,List.getElem?_take,if_pos hj];simp[World.cell?,hcell']
    obtain⟨q0,q1,q2,q3⟩:=Uh aj (m+k) hk;refine⟨?_,?_,?_,?_⟩
    ·rw[key _ (by omega)];exact q0
    ·rw[key _ (by omega)];exact q1
    ·rw[key _ (by omega)];exact q2
    ·rw[key _ (by omega)];exact q3
structure Cut(w wr:World)(t mb L i n:Nat)(a:Option Addr)(cap:Nat)(aj:List It):Prop where
 num:dR wr mb (L-i) (nZ aj n i)
 gr:w.grownBy wr (some mb)
theorem Cut.blk(h:lT w t a aj.length cap mb aj)(c:Cut w wr t mb aj.length i n a cap aj):wr.heap[t]? =some (.cells #[uQ t,.slice a aj.length cap,.map (some mb)] 141 (0,0))/\wr.ownsRow 0 113 4 (.slice a aj.length cap) aj.length (encI aj):=by
 obtain⟨es,cl,hmap⟩:=h.num.isMap;have hmt:t≠mb:=fun e=>by rw[<-e,h.blk]at hmap;cases hmap
 have hnm:(Value.slice a aj.length cap).ownBlock≠some mb:=Qe h.row hmap (fun cs e=>by cases e)
 have st:∀k,k<w.heap.size->k≠mb->wr.heap[k]? =w.heap[k]? := fun k hk hne=>c.gr.block k hk (fun e=>hne (by injection e))
 exact⟨(st t (lC h.blk).1 hmt).trans h.blk,qz h.row fun k hk=>st k (vP h.row k hk) (fun e=>hnm (e ▸ hk))⟩
theorem qhb{wr:World}(hI:iR w F t aj)(h:lT w t a aj.length cap mb aj)(hF:∀k,F k↔(k=t\/k=mb\/(Value.slice a aj.length cap).ownBlock=some k))(hn:n<=aj.length)
  (c:Cut w wr t mb aj.length (aj.length-n) n a cap aj):iR (wr.setCell ⟨t,1,none⟩ (.slice a n cap)) F t (aj.take n)/\Fr w (wr.setCell ⟨t,1,none⟩ (.slice a n cap)) F F:=by
 obtain⟨h1,h2⟩:=c.blk h;obtain⟨es,cl,hmap⟩:=c.num.isMap;have hmt:mb≠t:=fun e=>by rw[e,h1]at hmap;cases hmap
 have hne:(Value.slice a aj.length cap).ownBlock≠some t:=Qe h2 h1 (fun cs e=>by injection e with _ e _;exact absurd e (by decide))
 have hlen:(aj.take n).length=n:=by simp;omega
 obtain⟨a',cap',e,_,_,_,h4,h5⟩:=qO h2 hn;injection e with e1 _ e3;subst e1 e3;rw[EA]at h4;refine⟨⟨hI.nd.sublist (List.take_sublist _ _),by have:=hI.few;omega,fun x hx=>hI.ok x (List.mem_of_mem_take hx),.slice a n cap,mb,?_,?_,?_,fun k=>?_⟩,?_⟩
 ·rw[heap_setCell_same wr t 1 _ _ _ h1];rfl
 ·rw[hlen]
  refine qz h4 fun k hk=>Below.heap_setCell _ _ _ _ ?_
  dsimp only
  rintro rfl
  rw[h5]at hk;exact hne hk
 ·rw[hlen]
  have:=c.num
  rw[show aj.length-(aj.length-n)=n by omega]at this
  exact(this.far (Below.heap_setCell _ _ _ _ (by dsimp only;exact hmt))).alike fun y _=>qgD hI.nd hn y
 ·rw[h5];exact hF k
 ·refine⟨c.gr.os,c.gr.tape,c.gr.output,by have:=c.gr.size;simpa using this,fun k hk hf=>?_,fun _ hk=>Or.inl hk⟩
  have hf':=fun e=>hf ((hF k).2 e)
  exact(Below.heap_setCell _ _ _ _ (by dsimp only;exact fun e=>hf' (Or.inl e))).trans (c.gr.block k hk (fun e=>hf' (Or.inr (Or.inl (by injection e)))))
theorem qbb(h:iR w F t aj)(n:Nat)(hn:n<=aj.length):
  Calls prog 97 #[.pointer (some ⟨t,0,none⟩),.int .i64 n] w fun e w'=>e=.returned (.tuple #[])/\iR w' F t (aj.take n)/\Fr w w' F F:=by
 obtain⟨a,cap,mb,hr,hF⟩:=h.read;have c1:=hr.c1;obtain⟨a',hcut,hat⟩:=qhO hr.row rfl hn;have hpre:=fun w'=>Aa (P:=prog) underlying82 LZ a aj.length cap n hn hr.hc hr.nn w'
 have HR:Hid _:=hr;have HF:Hid _:=hF;have HI:Hid _:=h;have HAT:Hid _:=hat;have JJ:Hid (Cut w w t mb aj.length 0 n a cap aj):=⟨hr.num.alike fun y _=>qfP aj n y,⟨rfl,rfl,rfl,bZ,fun _ _ _=>rfl⟩⟩
 have HN:=aX hn;have hfew:=h.few;clear h hr hF hat hn;generalize hL:aj.length=L at *;have HL:=aX hL;clear hL;go_enter func97,ntmps97
 go_wp2
 go_loopw [13] (fun i wr=>∃k:Nat,k<=L-n/\i=.int .i64 k/\Hid (Cut w wr t mb L k n a cap aj)) (fun i _=>(L-n)-(intOf i).toNat)
 case atStart=>exact⟨0,Nat.zero_le _,rfl,JJ⟩
 case round=>
  obtain⟨k,hk,rfl,HC⟩:=hrel;clear JJ c1;by_cases hlt:k<L-n
  ·have hkl:n+k<aj.length:=by have:=HL.out;omega
   have hx:aj[n+k]? =some aj[n+k]:=kU hkl
   have HX:Hid (kF aj[n+k]):=HI.out.ok _ (List.getElem_mem hkl);have Yy:Hid ((nZ aj n k aj[n+k]).isSome=true):=qf2 HI.out.nd hkl;have fQ:Hid (∀y,(if y=aj[n+k] then none else nZ aj n k y)=nZ aj n (k+1) y):=fun y=>qfO HI.out.nd hkl y
   obtain⟨g,o,FG,hcs⟩:=HAT.out k _ hx;have HB:Hid _:=(show Cut w wr t mb aj.length k n a cap aj by rw[HL.out];exact HC.out).blk (by rw[HL.out];exact HR.out)
   rw[HL.out]at HB;obtain⟨q0,q1,q2,q3⟩:=hcs wr HB.out.2;generalize aj[n+k]=x at *;obtain⟨op,p,xa,xb⟩:=x;dsimp only at q0 q1 q2 q3
   clear hx hkl hcs;have hb1:=qd wr (.cells #[.int .u8 op,.int .u8 p,.int .i64 xa,.int .i64 xb] 113);have c2:(wr.alloc (.cells #[.int .u8 op,.int .u8 p,.int .i64 xa,.int .i64 xb] 113)).cell? ⟨t,2,none⟩=some (.map (some mb)):=qf (qc HB.out.1 2) hb1;have hnum:dR (wr.alloc (.cells #[.int .u8 op,.int .u8 p,.int .i64 xa,.int .i64 xb] 113)).drew mb (L-k) (nZ aj n k):=HC.out.num.far (hb1.block mb HC.out.num.lt);have JK:Hid (w.grownBy (wr.alloc (.cells #[.int .u8 op,.int .u8 p,.int .i64 xa,.int .i64 xb] 113)).drew (some mb)):=⟨HC.out.gr.os,HC.out.gr.tape,HC.out.gr.output,by have:=HC.out.gr.size;simp;omega,fun j hj hne=>(hb1.block j (by have:=HC.out.gr.size;omega)).trans (HC.out.gr.block j hj hne)⟩
   clear hb1 HB HC;go_wp2
   go_upto_region 15 with fail
   go_region_law ((refine q9H rfl _ _ rfl mb (L-k) (nZ aj n k) ⟨op,p,xa,xb⟩ rfl rfl hnum HX.out Yy.out ?_;intro w6 Qo BK))
   all_goals
    have Yz:Hid (Cut w w6 t mb L (k+1) n a cap aj):=by
     refine⟨?_,⟨BK.os.trans JK.out.os,BK.tape.trans JK.out.tape,BK.output.trans JK.out.output,Nat.le_trans JK.out.size BK.size,fun j hj hne=>(BK.block j (Nat.lt_of_lt_of_le hj JK.out.size) hne).trans (JK.out.block j hj hne)⟩⟩
     rw[show L-(k+1)=L-k-1 by omega]
     exact Qo.alike fun y _=>fQ.out y
    clear hnum c2 Qo BK JK;go_wp2
    go_roundw
    case rel=>exact⟨k+1,by omega,by go_num,Yz⟩
    case measure=>simp[intOf]<;>omega
  ·obtain rfl:k=L-n:=by omega
   have YA:Hid (Cut w wr t mb aj.length (aj.length-n) n a cap aj):=by show Cut _ _ _ _ _ _ _ _ _ _;rw[HL.out];exact HC.out
   have HR':Hid (lT w t a aj.length cap mb aj):=by show lT _ _ _ _ _ _ _;rw[HL.out];exact HR.out
   have hb:=YA.out.blk HR'.out;rw[HL.out]at hb;have c1:wr.cell? ⟨t,1,none⟩=some (.slice a L cap):=qc hb.1 1;have z1:wr.frozen? ⟨t,1,none⟩=false:=frozen_of_row wr _ 1 _ _ hb.1;have iy:Hid _:=qhb HI.out HR'.out (by rw[HL.out];exact HF.out) (by rw[HL.out];exact HN.out) YA.out
   clear hb YA;go_wp2
   go_end0
   exact⟨rfl,iy.out⟩
def mW(t bx:Nat)(w:World)(G:Nat->Prop)(aj:List It):Prop :=
 ∃F,iR w F t aj/\w.heap[bx]? =some (.cells #[uQ t] 118 (0,0))/\¬F bx/\∀k,G k↔(F k\/k=bx)
theorem mW.lt(h:mW t bx w G aj):(∀k,G k->k<w.heap.size)/\aj.length<=4096:=by
 obtain⟨F,h1,h2,_,h4⟩:=h;refine⟨fun k hk=>?_,h1.few⟩
 rcases (h4 k).1 hk with hk|rfl
 ·exact h1.lt k hk
 ·exact(lC h2).1
theorem mW.far(h:mW t bx w G aj)(hb:∀k,G k->w'.heap[k]? =w.heap[k]?):mW t bx w' G aj:=by
 obtain⟨F,h1,h2,h3,h4⟩:=h;exact⟨F,h1.far (fun k hk=>hb k ((h4 k).2 (Or.inl hk))),(hb bx ((h4 bx).2 (Or.inr rfl))).trans h2,h3,h4⟩
theorem mW.fr{F':Nat->Prop}(h2:w.heap[bx]? =some (.cells #[uQ t] 118 (0,0)))(h3:¬F bx)(h4:∀k,G k↔(F k\/k=bx))(hT:iR w' F' t aj)(fr:Fr w w' F F'):∃G',mW t bx w' G' aj/\Fr w w' G G':=by
 have hl:=(lC h2).1
 refine⟨fun k=>F' k\/k=bx,⟨F',hT,(fr.keep bx hl h3).trans h2,fr.out h3 hl,fun k=>Iff.rfl⟩,⟨fr.os,fr.tape,fr.output,fr.size,fun k hk hg=>fr.keep k hk (fun hf=>hg ((h4 k).2 (Or.inl hf))),fun k hk=>?_⟩⟩
 rcases hk with hk|hk
 ·rcases fr.foot k hk with h|h
  ·exact Or.inl ((h4 k).2 (Or.inl h))
  ·exact Or.inr h
 ·exact Or.inl ((h4 k).2 (Or.inr hk))
def yh(S:World->(Nat->Prop)->List It->Prop)(fd:Cm)(fid bx:Nat):Prop:=∀(w:World)(G:Nat->Prop)(aj:List It)(x:It),kF x->S w G aj->Calls prog fid #[iV x,.pointer (some ⟨bx,0,none⟩)] w fun e w'=>
 (∃r,fd aj x=some r/\e=.returned (.tuple #[.int .i64 r.2,.bool true])/\∃G',S w' G' r.1/\Fr w w' G G')\/(fd aj x=none/\e=.returned (.tuple #[.int .i64 0,.bool false])/\∃G',S w' G' aj/\Fr w w' G G')
theorem q8s(t bx:Nat):yh (mW t bx) vM 95 bx:=by
 intro w G aj x hx hS;obtain⟨F,h1,h2,h3,h4⟩:=hS;obtain⟨a,cap,mb,hr,_⟩:=h1.read;have hb:=qd w (aW x);have hr1:=hr.up hb;have c1:=hr1.c1;have c2:=hr1.c2;have cb:(w.alloc (aW x)).cell? ⟨bx,0,none⟩=some (.pointer (some ⟨t,0,none⟩)):=qf (qc h2 0) hb;have hlk:=fun m=>(show dR ((w.alloc (aW x)).drewN m) mb aj.length (gI aj) from hr1.num).look hx
 have iy:Hid (∀w',Below (w.alloc (aW x)).heap.size (w.alloc (aW x)) w'->∃G',mW t bx w' G' aj/\Fr w w' G G'):=fun w' hw=>mW.fr h2 h3 h4 (h1.up (qe hb hw)) (Fr.same (qe hb hw))
 have Af:Hid (∀(w1 w':World)(F':Nat->Prop),Below (w.alloc (aW x)).heap.size (w.alloc (aW x)) w1->iR w' F' t (aj++[x])->Fr w1 w' F F'->∃G',mW t bx w' G' (aj++[x])/\Fr w w' G G'):=fun w1 w' F' hw hT fr=>by
  have hw1:=qe hb hw;refine mW.fr h2 h3 h4 hT ⟨fr.os.trans hw1.os,fr.tape.trans hw1.tape,fr.output.trans hw1.output,Nat.le_trans hw1.size fr.size,fun k hk hf=>(fr.keep k (Nat.lt_of_lt_of_le hk hw1.size) hf).trans (hw1.block k hk),fun k hk=>?_⟩
  rcases fr.foot k hk with h|h
  ·exact Or.inl h
  ·exact Or.inr (Nat.le_trans hw1.size h)
 have HI:Hid (∀w',Below (w.alloc (aW x)).heap.size (w.alloc (aW x)) w'->iR w' F t aj):=fun w' hw=>h1.up (qe hb hw)
 have HX:Hid _:=hx;clear h1 h2 h3 h4 hr hr1 hb hx
 cases hp:gI aj x with
 |some j=>
  have HP:Hid (vM aj x=some (aj,j)):=by
   show _=_
   unfold vM;rw[show aj.findIdx? (· = x)=some j from hp]
  rw[hp]at hlk;clear hp Af;obtain⟨op,p,xa,xb⟩:=x;unfold iV at hlk;unfold aW at c1 c2 cb iy hlk;dsimp only[Option.getD,Option.isSome]at c1 c2 cb iy hlk
  unfold iV;dsimp only
  go_enter func95,ntmps95
  go_upto_region 15 with fail
  go_quiet (fail)
  go_wp2;go_ret2
  exact Or.inl ⟨_,HP.out,rfl,iy.out _ (below_drewN (Below.refl _ _) _)⟩
 |none=>
  rw[hp]at hlk;by_cases hl:aj.length=4096
  ·have HP:Hid (vM aj x=none):=by
    show _=_
    unfold vM;rw[show aj.findIdx? (· = x)=none from hp];simp only
    rw[if_pos hl]
   have hl':((aj.length:Int)==4096)=true:=by rw[beq_iff_eq];omega
   clear hp hl;obtain⟨op,p,xa,xb⟩:=x;unfold iV at hlk;unfold aW at c1 c2 cb iy hlk;dsimp only[Option.getD,Option.isSome]at c1 c2 cb iy hlk
   unfold iV;dsimp only
   go_enter func95,ntmps95
   go_upto_region 15 with fail
   go_quiet (fail)
   go_wp2;go_ret2
   exact Or.inr ⟨HP.out,rfl,iy.out _ (below_drewN (Below.refl _ _) _)⟩
  ·have HP:Hid (vM aj x=some (aj++[x],aj.length)):=by
    show _=_
    unfold vM;rw[show aj.findIdx? (· = x)=none from hp];simp only
    rw[if_neg hl]
   have hadd:∀w',Below (w.alloc (aW x)).heap.size (w.alloc (aW x)) w'->_:=fun w' hw=>qba (HI.out w' hw) x HX.out (Fa.1 hp) (by have:=(HI.out w' hw).few;omega)
   have hl':((aj.length:Int)==4096)=false:=by rw[lu];omega
   clear hp hl iy;obtain⟨op,p,xa,xb⟩:=x;unfold iV at hlk hadd;unfold aW at c1 c2 cb Af hlk hadd;dsimp only[Option.getD,Option.isSome]at c1 c2 cb Af hlk hadd
   unfold iV;dsimp only
   go_enter func95,ntmps95
   go_upto_region 15 with fail
   go_quiet (fail)
   have hw1:=below_drewN (Below.refl (w.alloc (.cells #[.int .u8 op,.int .u8 p,.int .i64 xa,.int .i64 xb] 113)).heap.size (w.alloc (.cells #[.int .u8 op,.int .u8 p,.int .i64 xa,.int .i64 xb] 113))) nq;have Ii:=hadd _ hw1;clear hadd
   go_wp2_with fail
   refine Ii.mono ?_
   rintro e w2 ⟨rfl,F2,hT2,dA⟩
   have HG:Hid _:=Af.out _ _ _ hw1 hT2 dA;clear Ii hT2 dA hw1;go_wp2;go_ret2
   exact Or.inl ⟨_,HP.out,rfl,HG.out⟩
def iZ(ns:List Nat):List Value:=ns.map fun n:Nat=>Value.int .i64 n
theorem qfl(ks:List Nat)(m:Nat):(iZ ks).take (m*1)=iZ (ks.take m):=by simp[iZ,List.map_take]
theorem YB:(prog.info? 3).map (·.size)=some 1:=by kernel_rfl
theorem nQ:(prog.info? 3).map (fun i=>(i.zero,i.size,i.bytes))=some (some (.int .i64 0),1,8):=by kernel_rfl
theorem UQ(h:w.ownsRow base 3 1 v L (iZ ns))(hm:m<=L):
  ∃a cap b,v=.slice a L cap/\(∀w',(Instr.sliceAt 71 (.slice a L cap) none (some (.int .i64 m)) none).run prog w'=.ok (.slice a m cap) w')/\w.ownsRow base 3 1 (.slice a m cap) m (iZ (ns.take m))/\(∀w',(Instr.sliceAt 71 (.slice a L cap) (some (.int .i64 m)) none none).run prog w'=.ok (.slice b (L-m) (cap-m)) w')/\yX w b (L-m) (cap-m) (ns.drop m)/\(Value.slice a m cap).ownBlock=v.ownBlock:=by
 have hlen:ns.length=L:=by have:=h.1;simpa [iZ] using this
 obtain⟨a,cap,rfl,h1,h2,h3,h4,h0⟩:=qO h hm;rw[qfl]at h4;obtain⟨b,h5,h6,h7⟩:=xY (P:=prog) (T:=71) underlying71 YB a L cap m hm h1 h3;refine⟨a,cap,b,rfl,Aa underlying71 YB a L cap m hm h1 h3,h4,h5,?_,h0⟩
 have had:∀k,k<L-m->∃g cur,a=some ⟨g,0,none⟩/\w.heap[g]? =some (.cells cur 3 (0,0))/\cur.toList.take (L*1)=iZ ns/\aG b k=⟨g,m+k,none⟩:=fun k hk=>by
  rcases h.2 with⟨e,e0⟩|⟨g,cap',cur,e,_,hcell,_,_,_,htk⟩
  ·omega
  ·injection e with e1 _ _
   subst e1;refine⟨g,cur,rfl,hcell,htk,?_⟩
   rw[h7 (by omega) _ rfl]
   simp[aG,qi]
 refine⟨by simp[hlen],by omega,by omega,fun n k w' hk hn=>?_,fun k hk=>?_,fun k hk=>?_,h6⟩
 ·exact yK underlying71 YB (fun e=>by have:=h6 e;omega) k w' hk
 ·obtain⟨g,cur,_,hcell,htk,e⟩:=had k hk
  rw[e,qc hcell];have:cur.toList[m+k]? =(iZ ns)[m+k]? := by rw[<-htk,List.getElem?_take,if_pos (by omega)]
  rw[<-Array.getElem?_toList,this];have hmk:m+k<ns.length:=by omega
  simp[iZ,List.getD_eq_getElem?_getD,hmk]
 ·obtain⟨g,cur,_,hcell,_,e⟩:=had k hk
  rw[e];exact(lC hcell).1
structure Dq(S:World->(Nat->Prop)->List It->Prop)(fd:Cm)(w wr:World)(G G1:Nat->Prop)(aj dS:List It)(a:Option Addr)(len cap:Nat)(ts:List Tk)(v:Value)(st:List Nat)(k:Nat):Prop where
 s:S wr G1 dS
 fr:Fr w wr G G1
 tk:bG wr a len cap ts
 ap:0<len->∀x,a=some x->¬G1 x.block
 row:wr.ownsRow w.heap.size 3 1 v st.length (iZ st)
 off:∀k,v.ownBlock=some k->¬G1 k
 ns:nS fd (ts.take k) (aj,[])=some (dS,st)
 lt:∀j∈st,j<dS.length
 pre:∃l,dS=aj++l
 few:st.length<=k
def wu(F:FuncId):Prop:=∀args w,(callFunc F args).run prog w=.ok (.enter F args) w
theorem qhp{op p:Nat}{N:Nat}(h1:op<256)(h2:p<256)(hN:N<=4096)(h:∀j∈ns,j<N):kF (bg (op,p) ns):=by
 match ns,h with
 | [],_=>exact⟨h1,h2,by show (-1:Int)<=-1;omega,by show (-1:Int)<100000000;omega,by show (-1:Int)<=-1;omega,by show (-1:Int)<100000000;omega⟩
 | [x],h=>
  have:=h x (by simp)
  exact⟨h1,h2,by show (-1:Int)<=(x:Int);omega,by show (x:Int)<100000000;omega,by show (-1:Int)<=-1;omega,by show (-1:Int)<100000000;omega⟩
 |x::y::_,h=>
  have:=h x (by simp)
  have:=h y (by simp)
  exact⟨h1,h2,by show (-1:Int)<=(x:Int);omega,by show (x:Int)<100000000;omega,by show (-1:Int)<=(y:Int);omega,by show (y:Int)<100000000;omega⟩
theorem Fr.trans'{F1 F2:Nat->Prop}(h:Fr w w1 F F1)(k:Fr w1 w2 F1 F2):Fr w w2 F F2 :=
 ⟨k.os.trans h.os,k.tape.trans h.tape,k.output.trans h.output,Nat.le_trans h.size k.size,fun j hj hf=>(k.keep j (Nat.lt_of_lt_of_le hj h.size) (fun h1=>by
  rcases h.foot j h1 with e|e
  ·exact hf e
  ·omega)).trans (h.keep j hj hf),fun j hj=>by
  rcases k.foot j hj with e|e
  ·exact h.foot j e
  ·exact Or.inr (Nat.le_trans h.size e)⟩
theorem yh.uni{S:World->(Nat->Prop)->List It->Prop}{fd:Cm}{fid:Nat}(h:yh S fd fid bx)(w:World)(G:Nat->Prop)(aj:List It)(x:It)(hx:kF x)(hS:S w G aj):Calls prog fid #[iV x,.pointer (some ⟨bx,0,none⟩)] w fun e w'=>
  ∃(j:Nat) (f:Bool),e=.returned (.tuple #[.int .i64 j,.bool f])/\((f=true/\∃aI,fd aj x=some (aI,j)/\∃G',S w' G' aI/\Fr w w' G G')\/(f=false/\fd aj x=none/\∃G',S w' G' aj/\Fr w w' G G')) :=
 (h w G aj x hx hS).mono fun e w' hq=>by
  rcases hq with⟨⟨r,j⟩,h1,h2,h3⟩|⟨h1,h2,h3⟩
  ·exact⟨j,true,h2,Or.inl ⟨rfl,r,h1,h3⟩⟩
  ·exact⟨0,false,h2,Or.inr ⟨rfl,h1,h3⟩⟩
theorem q7y(S:World->(Nat->Prop)->List It->Prop)(fd:Cm)(fid bx:Nat)(hE:wu fid)(nW:yh S fd fid bx)(hP:Oj fd)
  (hlt:∀{w G aj},S w G aj->(∀k,G k->k<w.heap.size)/\aj.length<=4096) (Qp:∀{w w' G aj},S w G aj->(∀k,G k->w'.heap[k]? =w.heap[k]?)->S w' G aj)
  (w:World) (G:Nat->Prop) (aj:List It) (a:Option Addr) (len cap:Nat) (ts:List Tk) (T:Tr) (hS:S w G aj) (hT:bG w a len cap ts) (hA:0<len->∀x,a=some x->¬G x.block)
  (hl:0<len) (hg:sD ts T) (hf:dD false ts=true):
  Calls prog 94 #[.slice a len cap,.func (.func fid) #[] #[.pointer (some ⟨bx,0,none⟩)]] w fun e w'=>∃G' aI,S w' G' aI/\Fr w w' G G'/\(∃l,aI=aj++l)/\(∃k st,nS fd (ts.take k) (aj,[])=some (aI,st)) /\
   ((∃j st,nS fd ts (aj,[])=some (aI,st++[j])/\e=.returned (.tuple #[.int .i64 j,.bool true]))\/(nS fd ts (aj,[])=none/\e=.returned (.tuple #[.int .i64 0,.bool false]))):=by
 have ou:Hid (Dq S fd w w G G aj aj a len cap ts (.slice none 0 0) [] 0):=⟨hS,Fr.same (Below.refl _ _),hT,hA,⟨rfl,Or.inl ⟨rfl,rfl⟩⟩,fun k hk=>(by cases hk),rfl,fun j hj=>(by simp at hj),⟨[],by simp⟩,Nat.le_refl _⟩
 have HLEN:Hid (ts.length=len):=hT.hlen;have HT0:Hid _:=hT;have ED:Hid _:=hA;have HG:Hid _:=hg;have hl2:len<=2048:=by have:=hg.few;have:=hT.hlen;omega
 have HF:Hid _:=hf;have HFD:Hid _:=nW;have uh:Hid (∀{w G aj},S w G aj->(∀k,G k->k<w.heap.size)/\aj.length<=4096):=hlt;have Qq:Hid (∀{w w' G aj},S w G aj->(∀k,G k->w'.heap[k]? =w.heap[k]?)->S w' G aj):=Qp;have HP:Hid _:=hP;unfold wu at hE;clear hS hT hA hg hf nW hlt Qp hP;go_enter func94,ntmps94
 go_wp2
 go_loopw [4,5,6,12] (fun i b v c wr=>∃k:Nat,k<=len/\c=.int .i64 k/\∃(j:Nat) (f:Bool),i=.int .i64 j/\b=.bool f/\∃G1 dS st,Hid (Dq S fd w wr G G1 aj dS a len cap ts v st k)/\Hid (0<k->f=true/\∃st',st=st'++[j])) (fun _ _ _ c _=>len-(intOf c).toNat)
 case atStart=>exact⟨0,Nat.zero_le _,rfl,0,false,rfl,rfl,G,aj,[],ou,fun h=>absurd h (by omega)⟩
 case round=>
  obtain⟨k,hk,rfl,j,f,rfl,rfl,G1,dS,st,HN,HJ⟩:=hrel;clear ou;have hfw:=HN.out.few;by_cases hlt:k<len
  ·have hxl:k<ts.length:=by have:=HLEN.out;omega
   obtain⟨g1,o1,s1,hi1,hx0,hx1,hg1,_⟩:=HN.out.tk.at underlying22 qD k hlt;have hidx:=fun w'=>hi1 len w' hlt
   clear hi1;have fQ:Hid (nS fd (ts.take (k+1)) (aj,[])=kJ fd (dS,st) ts[k]):=AG fd hxl HN.out.ns;have lV:Hid (kJ fd (dS,st) ts[k]=none->nS fd ts (aj,[])=none):=fun h=>AH fd (k:=k+1) (fQ.out.trans h)
   have hdep:gu ts[k]<=st.length:=by
    have:=(HG.out.ok k hxl).2
    rw[<-dt fd (ts.take k) (aj,[]) (dS,st) [] rfl HN.out.ns]at this;exact this
   obtain⟨b,hfa⟩:=kx hxl HF.out;have hok:=HN.out.tk.ok ts[k] (List.getElem_mem hxl);generalize ts[k]=q at *;obtain⟨op,p⟩:=q;dsimp only at hx0 hx1 fQ hfa hok
   obtain⟨htn,h23,n3,n9,n10,n13,n14,_⟩:=VQ hfa;have hc:=Ci htn;clear hfa htn;have Di:=fun w'=>E6 op w' h23 n3 n9 n10
   rw[<-hc]at Di;have hn2:gu (op,p)<=2:=by rw[hc];exact TT op
   have yt:Hid (kJ fd (dS,st) (op,p)=(fd dS (bg (op,p) (st.drop (st.length-gu (op,p))))).map fun r=>(r.1,st.take (st.length-gu (op,p))++[r.2])):=rfl
   clear hc;generalize gu (op,p)=n at *;obtain⟨M,hM⟩:∃M,M=st.length-n:=⟨_,rfl⟩
   rw[<-hM]at yt;obtain⟨av,cv,bv,rfl,hpre,hown,hcut,hns,hob⟩:=UQ HN.out.row (m:=M) (by omega)
   rw[show st.length-M=n by omega]at hcut hns
   have HO:Hid _:=hown;have YC:Hid _:=hob;have wY:Hid (kF (bg (op,p) (st.drop M))):=qhp hok.1 hok.2 (uh.out HN.out.s).2 (fun j hj=>HN.out.lt j (List.mem_of_mem_drop hj))
   have hb1:=qd wr (.cells #[.int .u8 op,.int .u8 p] 42);have hwr:IntKind.i64.wrap ((st.length:Int)-(n:Int))=(M:Int):=by rw[IntKind.wrap_i64];omega
   have Us:M<=st.length:=by omega
   have HIT:Hid (∀w',Below wr.heap.size wr w'->Calls prog 121 #[.agg #[.int .u8 op,.int .u8 p],.slice bv n (cv-M)] w' fun e w''=>e=.returned (iV (bg (op,p) (st.drop M)))/\Below w'.heap.size w' w''):=fun w' hb=>FO op p bv n (cv-M) (st.drop M) w' (hns.up hb) hn2
   have JL:Hid (∀w',Below wr.heap.size wr w'->S w' G1 dS):=fun w' hb=>Qq.out HN.out.s fun k hk=>hb.block k ((uh.out HN.out.s).1 k hk)
   clear hns hown hob hM
   go_wp2_with (go_at_call 120;refine (Di _).mono ?_;rintro e w' ⟨rfl,rfl⟩)
   have ct0:(wr.alloc (.cells #[.int .u8 op,.int .u8 p] 42)).cell? ⟨wr.heap.size,0,none⟩=some (.int .u8 op):=qc (MapKept.heap_alloc wr _).1 0;have ct1:(wr.alloc (.cells #[.int .u8 op,.int .u8 p] 42)).cell? ⟨wr.heap.size,1,none⟩=some (.int .u8 p):=qc (MapKept.heap_alloc wr _).1 1;have Ij:=HIT.out (wr.alloc (.cells #[.int .u8 op,.int .u8 p] 42)).drew hb1.drew;have HB1:Hid _:=hb1.drew;have hz1:(wr.alloc (.cells #[.int .u8 op,.int .u8 p] 42)).heap.size=wr.heap.size+1:=by simp
   clear hb1;generalize st.drop M=dk at *;generalize bg (op,p) dk=x at *
   go_region_with (first
    | (go_at_call 121;(with_reducible refine Ij.mono ?_);rintro e w2 ⟨rfl,hb2⟩;have hfind:=yh.uni HFD.out w2 G1 dS x wY.out (JL.out w2 (qe HB1.out hb2)))
    | ((with_reducible refine hfind.mono ?_);rintro e w3 ⟨j3,f3,rfl,hw3⟩)
    |fail)
   all_goals
    have HB2:Hid (Below wr.heap.size wr w2):=qe HB1.out hb2;clear Ij hfind hb2 HB1 ct0 ct1 HIT JL hE hcut hpre hidx hx0 hx1 Di;rcases hw3 with⟨rfl,mX,hfd,G2,hS2,dA⟩|⟨rfl,hfd,G2,hS2,dA⟩
    ·have JM:Hid (nS fd (ts.take (k+1)) (aj,[])=some (mX,st.take M++[j3])):=by
      show _=_
      rw[fQ.out,yt.out,hfd];rfl
     have Dt:∀q,(Value.slice av M cv).ownBlock=some q->¬G1 q:=fun q hq=>HN.out.off q (YC.out ▸ hq)
     have rU:Hid (w3.ownsRow w.heap.size 3 1 (.slice av M cv) M (iZ (st.take M))):=dA.own (qC HO.out HB2.out) Dt;have hlt1:=vP HO.out;have Ik:Hid (∀q,(Value.slice av M cv).ownBlock=some q->¬G2 q):=fun q hq=>dA.out (Dt q hq) (Nat.lt_of_lt_of_le (hlt1 q hq) HB2.out.size)
     have Du:Hid (Fr w w3 G G2):=HN.out.fr.trans' ((Fr.same HB2.out).trans' dA);have kz:Hid (bG w3 a len cap ts):=dA.tks (HN.out.tk.up HB2.out) HN.out.ap
     have HAP:Hid (0<len->∀x,a=some x->¬G2 x.block):=fun h x hx=>by
      subst hx;have:=(HN.out.tk.up HB2.out).lt h
      exact dA.out (HN.out.ap h x rfl) this
     have lS:Hid _:=hS2;obtain⟨l2,JO⟩:=HP.out.pre hfd;have hj3:j3<mX.length:=HP.out.lt hfd
     have Dv:Hid (∃l,mX=aj++l):=by
      obtain⟨l,hl⟩:=HN.out.pre;exact⟨l++l2,by rw[show mX=dS++l2 from JO,hl,List.append_assoc]⟩
     have rQ:Hid (∀j∈st.take M++[j3],j<mX.length):=fun j hj=>by
      rcases List.mem_append.1 hj with hj|hj
      ·have:=HN.out.lt j (List.mem_of_mem_take hj)
       rw[show mX=dS++l2 from JO,List.length_append];omega
      ·simp at hj;omega
     have Ac:Hid ((st.take M).length=M):=by show _=_;simp;omega
     have hz3:=dA.size;have hwz:=HN.out.fr.size;have hw2z:=HB2.out.size;clear hfd hS2 dA Dt hlt1 fQ yt lV HN HJ HO YC JO wY HB2;generalize st.take M=tk at *;have hc4:(w3.alloc (.cells #[.int .i64 j3] 3)).cell? ⟨w3.heap.size,0,none⟩=some (.int .i64 j3):=qc (MapKept.heap_alloc w3 _).1 0;have uz:Hid ((w3.alloc (.cells #[.int .i64 j3] 3)).ownsRow w.heap.size 3 1 (.slice av M cv) M (iZ tk)):=World.ownsRow.alloc rU.out _;have JQ:w.heap.size<=(w3.alloc (.cells #[.int .i64 j3] 3)).heap.size:=by simp;omega
     go_wp2_with (at_builtin;refine Da underlying71 nQ rfl (by decide) rfl _ _ rfl w.heap.size _ M (iZ tk) (.int .i64 j3) w3.heap.size rfl rfl uz.out hc4 rfl (by omega) JQ ?_)
     intro v4 w4 hown4 nJ Il;have hbn:=qd w3 (.cells #[.int .i64 j3] 3);have hge:=vO rU.out;have hG2:=(uh.out lS.out).1;have hs4:=nJ.size;have hsn:=hbn.size;have FT:Hid (Fr w w4 G G2):=⟨nJ.os.trans (hbn.os.trans Du.out.os),nJ.tape.trans (hbn.tape.trans Du.out.tape),nJ.output.trans (hbn.output.trans Du.out.output),by omega,fun q hq hg=>(nJ.block q (by omega) (fun e=>by have:=hge q e.symm;omega)).trans ((hbn.block q (by omega)).trans (Du.out.keep q hq hg)),Du.out.foot⟩
     have FV:Hid (Dq S fd w w4 G G2 aj mX a len cap ts v4 (tk++[j3]) (k+1)):=by
      refine⟨Qq.out lS.out fun q hq=>(nJ.block q (by have:=hG2 q hq;omega) (fun e=>Ik.out q e.symm hq)).trans (hbn.block q (hG2 q hq)),FT.out,FT.out.tks HT0.out ED.out,HAP.out,?_,fun q hq hg=>?_,JM.out,rQ.out,Dv.out,?_⟩
      ·rw[List.length_append,Ac.out]
       unfold iZ at hown4 ⊢;rw[List.map_append];exact hown4
      ·rcases Il with e|e
       ·exact Ik.out q (e ▸ hq) hg
       ·rw[e]at hq;injection hq with hq;have:=hG2 q hg;omega
      ·rw[List.length_append,Ac.out];simp;omega
     clear hown4 nJ Il hc4 uz rU hbn hge hG2;go_wp2
     go_roundw
     case rel=>exact⟨k+1,by omega,by go_num,j3,true,rfl,rfl,G2,mX,tk++[j3],FV,fun _=>⟨rfl,tk,rfl⟩⟩
     case measure=>simp[intOf]<;>omega
    ·have BL:Hid (nS fd ts (aj,[])=none):=lV.out (by rw[yt.out,hfd];rfl)
     have Du:Hid (Fr w w3 G G2):=HN.out.fr.trans' ((Fr.same HB2.out).trans' dA);have lS:Hid _:=hS2;have Dv:Hid _:=HN.out.pre;have Ic:Hid _:=HN.out.ns;clear hfd hS2 dA fQ yt lV HN HJ HO YC wY HB2;go_wp2;go_ret2
     exact⟨G2,dS,lS.out,Du.out,Dv.out,⟨_,_,Ic.out⟩,Or.inr ⟨BL.out,rfl⟩⟩
  ·obtain rfl:k=len:=by omega
   obtain⟨rfl,st',rfl⟩:=HJ.out hl
   have JR:Hid (nS fd ts (aj,[])=some (dS,st'++[j])):=by
    have:=HN.out.ns
    rw[List.take_of_length_le (by have:=HLEN.out;omega)]at this
    exact this
   have Du:Hid _:=HN.out.fr;have lS:Hid _:=HN.out.s;have Dv:Hid _:=HN.out.pre;have Ic:Hid _:=HN.out.ns;clear HN HJ hfw;go_wp2;go_ret2
   exact⟨G1,dS,lS.out,Du.out,Dv.out,⟨_,_,Ic.out⟩,Or.inl ⟨j,st',JR.out,rfl⟩⟩
def FW(w:World)(F:Nat->Prop)(t:Nat)(aj:List It):Prop:=iR w F t aj/\TabIs aj
theorem qgj:∀T:Tr,0<T.flat.length
 | .leaf _=>by simp[Tr.flat]
 | .un _ _=>by simp[Tr.flat]
 | .bin _ _ _=>by simp[Tr.flat];omega
structure YD(ts:List Tk):Prop where
 pos:0<ts.length
 few:dD false ts=true
 good:∃T,sD ts T
theorem YE(h:bM ts=0):YD ts:=by
 obtain⟨hl,hk⟩:=LJ.1 h;have hf:=((NS ts).1 hk).1;obtain⟨T,hW,_,_,rfl⟩:=hk;exact⟨qgj T,hf,T,Cj hW hl⟩
theorem qgW(h:iR w F t aj)(hb:Below (w.alloc (.cells #[uQ t] 118)).heap.size (w.alloc (.cells #[uQ t] 118)) w'):mW t w.heap.size w' (fun k=>F k\/k=w.heap.size) aj:=by
 have hb1:=qd w (.cells #[uQ t] 118);refine⟨F,h.up (qe hb1 hb),(hb.block _ (by simp)).trans (MapKept.heap_alloc w _).1,fun hf=>?_,fun k=>Iff.rfl⟩
 have:=h.lt _ hf
 omega
theorem od{G':Nat->Prop}(hb:Below w.heap.size w w1)(hB:mW t w.heap.size w2 G' aj)(fr:Fr w1 w2 (fun k=>F k\/k=w.heap.size) G'):∃F',iR w2 F' t aj/\Fr w w2 F F':=by
 obtain⟨F',h1,_,_,h4⟩:=hB;refine⟨F',h1,fr.os.trans hb.os,fr.tape.trans hb.tape,fr.output.trans hb.output,Nat.le_trans hb.size fr.size,fun k hk hf=>(fr.keep k (Nat.lt_of_lt_of_le hk hb.size) (fun h=>?_)).trans (hb.block k hk),fun k hk=>?_⟩
 ·rcases h with h|h
  ·exact hf h
  ·omega
 ·rcases fr.foot k ((h4 k).2 (Or.inl hk)) with (h|h)|h
  ·exact Or.inl h
  ·exact Or.inr (by omega)
  ·exact Or.inr (Nat.le_trans hb.size h)
theorem q8Z:wu 95:=fun _ _=>rfl
theorem qgu{aI:List It}{st:List Nat}{j:Nat}(hl:aj.length<=4096)(hc:bM ts=0)(h:nS vM ts (aj,[])=some (aI,st++[j])):iI aj ts=0/\jZ aj ts=aI/\kH aj ts=j:=by
 rw[Wp ts (aj,[]) hl]at h;by_cases c:(vK ts (aj,[])).1.length<=4096
 ·rw[if_pos c]at h
  injection h with h;have e1:kI aj ts=aI:=by unfold kI;rw[h]
  have e2:kN aj ts=j:=by unfold kN;rw[h];simp
  have e0:iI aj ts=0:=by
   unfold iI;rw[if_neg (by omega),if_neg (by unfold kI;omega)]
  exact⟨e0,by unfold jZ;rw[if_pos e0,e1],by unfold kH;rw[if_pos e0,e2]⟩
 ·rw[if_neg c]at h;cases h
theorem qhq(hl:aj.length<=4096)(hc:bM ts=0)(h:nS vM ts (aj,[])=none):iI aj ts=3/\jZ aj ts=aj/\kH aj ts=0:=by
 rw[Wp ts (aj,[]) hl]at h;by_cases c:(vK ts (aj,[])).1.length<=4096
 ·rw[if_pos c]at h;cases h
 ·have e0:iI aj ts=3:=by
   unfold iI;rw[if_neg (by omega),if_pos (by unfold kI;omega)]
  exact⟨e0,by unfold jZ;rw[if_neg (by omega)],by unfold kH;rw[if_neg (by omega)]⟩
theorem oe(hc:bM ts≠0):iI aj ts=bM ts/\jZ aj ts=aj/\kH aj ts=0:=by
 have e0:iI aj ts=bM ts:=by unfold iI;rw[if_pos hc]
 exact⟨e0,by unfold jZ;rw[if_neg (by omega)],by unfold kH;rw[if_neg (by omega)]⟩
theorem Fr.self(h:FW w F t aj)(hb:Below w.heap.size w w'):∃F',FW w' F' t aj/\Fr w w' F F':=⟨F,⟨h.1.up hb,h.2⟩,Fr.same hb⟩
theorem om(a:Option Addr)(len cap:Nat)(ts:List Tk)(h:FW w F t aj)(hT:bG w a len cap ts)(hA:0<len->∀x,a=some x->¬F x.block):
  Calls prog 70 #[.pointer (some ⟨t,0,none⟩),.slice a len cap] w fun e w'=>e=.returned (.tuple #[.int .i64 (kH aj ts:Int),.int .i64 (iI aj ts:Int)])/\∃F',FW w' F' t (jZ aj ts)/\Fr w w' F F':=by
 have hb1:=qd w (.cells #[uQ t] 118);obtain⟨aa,ca,mb,hr,_⟩:=(h.1.up hb1).read;have hm:=WS hr;have HI:Hid _:=h;have hck:=Ss a len cap ts (w.alloc (.cells #[uQ t] 118)) (hT.up hb1);have cb:∀w',Below (w.alloc (.cells #[uQ t] 118)).heap.size (w.alloc (.cells #[uQ t] 118)) w'->w'.cell? ⟨w.heap.size,0,none⟩=some (.pointer (some ⟨t,0,none⟩)):=fun w' hb=>qf (qc (dO w _).1 0) hb
 have cb0:=cb _ (Below.refl _ _);by_cases hc:bM ts=0
 ·have HC:Hid _:=hc
  have FX:=YE hc;have Dw:Hid _:=FX;rw[hc]at hck;have HT:Hid _:=hT;have HA:Hid _:=hA;have AU:Hid _:=cb;clear hT hA h hr cb hc FX hb1;unfold uQ at hm hck cb0 AU;go_enter func70,ntmps70
  go_wp2_with fail
  refine hm.mono ?_
  rintro e w1 ⟨rfl,hw1⟩
  obtain rfl:=hw1.symm
  go_wp2_with fail
  refine hck.mono ?_
  rintro e w2 ⟨rfl,hb2⟩
  have HB2:Hid (Below w.heap.size w w2):=qe (qd w _) hb2;have cb2:=AU.out w2 hb2;obtain⟨a2,k2,m2,hr2,_⟩:=(HI.out.1.up HB2.out).read;have c1:=hr2.c1;obtain⟨T,hgood⟩:=Dw.out.good
  have hnum:=q7y (mW t w.heap.size) vM 95 w.heap.size q8Z (q8s t w.heap.size) AK mW.lt mW.far w2 (fun k=>F k\/k=w.heap.size) aj a len cap ts T (qgW HI.out.1 hb2) (HT.out.up HB2.out) (fun hp x hx hg=>by
   rcases hg with hg|hg
   ·exact HA.out hp x hx hg
   ·subst hx;have:=HT.out.lt hp;omega) (by have:=Dw.out.pos;have:=HT.out.hlen;omega) hgood Dw.out.few
  clear hm hck hr2 hb2 cb0 AU hgood
  go_wp2_with fail
  refine hnum.mono ?_
  rintro e w3 ⟨G3,JU,hB3,eF,⟨l3,hl3⟩,⟨q3,st3,hq3⟩,(⟨j,st,hns,rfl⟩|⟨hns,rfl⟩)⟩
  ·obtain⟨k1,k2,k3⟩:=qgu HI.out.1.few HC.out hns
   have HK:Hid _:=And.intro k1 (And.intro k2 k3);obtain⟨F3,Qr,hf3⟩:=od HB2.out hB3 eF;have HF:Hid _:=And.intro Qr hf3;have HIS:Hid (TabIs (jZ aj ts)):=(kept HI.out.2 k1).is;clear hnum hB3 eF hl3 hq3 hns k1 k2 k3 Qr hf3 c1 cb2;go_wp2;go_ret2
   rw[HK.out.1,HK.out.2.2];exact⟨rfl,F3,⟨by rw[HK.out.2.1];exact HF.out.1,HIS.out⟩,HF.out.2⟩
  ·have HK:Hid _:=qhq HI.out.1.few HC.out hns
   obtain⟨F3,Qr,hf3⟩:=od HB2.out hB3 eF;have HF:Hid _:=hf3
   have cb3:w3.cell? ⟨w.heap.size,0,none⟩=some (.pointer (some ⟨t,0,none⟩)):=by
    obtain⟨F',_,h2,_⟩:=hB3;exact qc h2 0
   have hcut:=qbb Qr aj.length (by rw[hl3];simp)
   rw[show JU.take aj.length=aj by rw[hl3];simp]at hcut
   clear hnum hB3 eF hl3 hq3 hns Qr hf3 c1 cb2
   go_wp2_with fail
   refine hcut.mono ?_
   rintro e w4 ⟨rfl,oo,nK⟩
   have HI4:Hid _:=And.intro oo nK;clear hcut oo nK;go_wp2;go_ret2
   rw[HK.out.1,HK.out.2.2,HK.out.2.1];exact⟨rfl,F3,⟨HI4.out.1,HI.out.2⟩,HF.out.trans' HI4.out.2⟩
 ·have HK:Hid _:=oe (aj:=aj) hc
  have hc':¬(bM ts:Int)=0:=by omega
  have hc2:((bM ts:Int)==0)=false:=by rw[lu];exact hc'
  clear hT hA h hr cb hb1 hc;unfold uQ at hm hck cb0;generalize bM ts=E at *;go_enter func70,ntmps70
  go_wp2_with fail
  refine hm.mono ?_
  rintro e w1 ⟨rfl,hw1⟩
  obtain rfl:=hw1.symm
  go_wp2_with fail
  refine hck.mono ?_
  rintro e w2 ⟨rfl,hb2⟩
  have HB2:Hid (Below w.heap.size w w2):=qe (qd w _) hb2;clear hm hck hb2 cb0;go_wp2;go_ret2
  rw[HK.out.1,HK.out.2.2,HK.out.2.1];exact⟨rfl,Fr.self HI.out HB2.out⟩
theorem qN(x y:Nat)(b:Bool)(w:World):Calls prog 113 #[.int .u8 x,.int .u8 y,.bool b] w fun e w'=>e=.returned (.int .u8 (tn x y b:Int))/\w'=w:=by
 cases b <;>
 ·go_enter func113,ntmps113
  go_wp2;go_ret
  exact⟨rfl,rfl⟩
theorem qH(op:Nat)(w:World):Calls prog 115 #[.int .u8 op] w fun e w'=>e=.returned (.agg #[.int .u8 op,.int .u8 0])/\Below w.heap.size w w':=by
 go_enter func115,ntmps115
 go_wp2;refine bodyPost_ret (v:=.agg #[.int .u8 op,.int .u8 0]) (by simp[results,results115,go_sem]) rfl ⟨rfl,qd _ _⟩
def dV(T:List Tk)(w:World)(e:Ending)(w':World):Prop:=∃a cap,e=.returned (.slice a T.length cap)/\bG w' a T.length cap T/\Below w.heap.size w w'
theorem JV(a:Option Addr)(la ca:Nat)(xa:List Tk)(b:Option Addr)(lb cb:Nat)(xb:List Tk)(op:Nat)(w:World)(hA:bG w a la ca xa)(hB:bG w b lb cb xb)(hop:op<256)(ha:la<=1000000)(hb:lb<=1000000):
  Calls prog 114 #[.slice a la ca,.slice b lb cb,.int .u8 op] w (dV (xa++xb++[(op,0)]) w):=by
 have hla:=hA.hlen;have hlb:=hB.hlen;have htk:=fun w'=>qH op w'
 have HA:Hid _:=hA;have HB:Hid _:=hB
 have YF:Hid (∀t∈xa++xb++[(op,0)],t.1<256/\t.2<256):=fun t ht=>by
  rcases List.mem_append.1 ht with ht|ht
  ·rcases List.mem_append.1 ht with ht|ht
   ·exact hA.ok t ht
   ·exact hB.ok t ht
  ·simp at ht;subst ht;exact⟨hop,by show 0<256;decide⟩
 have MS:Hid _:=hla;have Qu:Hid _:=hlb;clear hA hB hla hlb;have HO0:Hid (w.ownsRow w.heap.size 42 2 (.slice none 0 0) ([]:List Tk).length (dJ [])):=⟨rfl,Or.inl ⟨rfl,rfl⟩⟩;go_enter func114,ntmps114
 go_wp2_with (at_builtin;refine OE rfl _ _ rfl w.heap.size _ [] xa a la ca rfl rfl HO0.out HA.out (by simp) (by have:=MS.out;omega) (Nat.le_refl _) ?_)
 intro v1 w1 ho1 hg1;have hb1:Below w.heap.size w w1:=(Below.refl _ _).grown hg1 bZ (fun j e=>by cases e)
 have ho1:w1.ownsRow w.heap.size 42 2 v1 xa.length (dJ xa):=by simpa using ho1
 have uw:Hid _:=ho1;have uq:Hid _:=vO ho1;have HB1:Hid _:=hb1;have UM:Hid _:=HB.out.up hb1;have hz1:=hb1.size;obtain⟨x1,d1,rfl,_⟩:=qO ho1 bZ;clear ho1 hg1 hb1
 go_wp2_with (at_builtin;refine OE rfl _ _ rfl w.heap.size _ xa xb b lb cb rfl rfl uw.out UM.out (by have:=MS.out;omega) (by have:=Qu.out;omega) hz1 ?_)
 intro v2 w2 ho2 hg2;have hb2:Below w.heap.size w w2:=HB1.out.grown hg2 hz1 uq.out;have ho2:w2.ownsRow w.heap.size 42 2 v2 (xa++xb).length (dJ (xa++xb)):=by rw[List.length_append];simpa using ho2
 have l9:Hid _:=ho2;have HG2:Hid _:=vO ho2;have HB2:Hid _:=hb2;have hz2:=hb2.size;obtain⟨x2,d2,rfl,_⟩:=qO ho2 bZ;clear ho2 hg2 hb2 uw UM HB1 hz1;have rQ:Hid ((xa++xb).length<=2000000):=by show _<=_;rw[List.length_append];have:=MS.out;have:=Qu.out;omega
 generalize xa++xb=X at *
 go_wp2_with fail
 refine (htk _).mono ?_
 rintro e w3 ⟨rfl,hb3⟩
 have hb4:=qe hb3 (qd w3 (.cells #[.int .u8 op,.int .u8 0] 42));have HB3:Hid (Below w.heap.size w (w3.alloc (.cells #[.int .u8 op,.int .u8 0] 42))):=qe HB2.out hb4;have HT3:Hid (bG (w3.alloc (.cells #[.int .u8 op,.int .u8 0] 42)) (some ⟨w3.heap.size,0,none⟩) 1 1 [(op,0)]):=Ur (Az.new w3 42 op 0) hop (by decide)
 have rU:Hid ((w3.alloc (.cells #[.int .u8 op,.int .u8 0] 42)).ownsRow w.heap.size 42 2 (.slice x2 X.length d2) X.length (dJ X)):=qC l9.out hb4;have hz3:w.heap.size<=(w3.alloc (.cells #[.int .u8 op,.int .u8 0] 42)).heap.size:=HB3.out.size;clear hb3 hb4 l9 HB2
 go_wp2_with (at_builtin;refine OE rfl _ _ rfl w.heap.size _ X [(op,0)] (some ⟨w3.heap.size,0,none⟩) 1 1 rfl rfl rU.out HT3.out (by have:=rQ.out;omega) (by simp) hz3 ?_)
 intro v4 w4 wV hg4;have HB4:Hid (Below w.heap.size w w4):=HB3.out.grown hg4 hz3 HG2.out;have wV:w4.ownsRow w.heap.size 42 2 v4 (X++[(op,0)]).length (dJ (X++[(op,0)])):=by rw[List.length_append];exact wV
 obtain⟨a4,c4,rfl,t4,_⟩:=WO wV YF.out;have HT4:Hid _:=t4;clear wV hg4 t4;generalize X++[(op,0)]=Y at *;go_wp2;go_ret
 exact⟨a4,c4,rfl,HT4.out,HB4.out⟩
theorem ot(a:Option Addr)(la ca:Nat)(xa:List Tk)(op:Nat)(w:World)(hA:bG w a la ca xa)(hop:op<256)(ha:la<=1000000):
  Calls prog 112 #[.slice a la ca,.int .u8 op] w (dV (xa++[]++[(op,0)]) w):=by
 have h:=JV a la ca xa none 0 0 [] op w hA bG.nil hop ha (by omega)
 generalize xa++[]++[(op,0)]=Y at *;unfold dV at *;clear hA ha hop;go_enter func112,ntmps112
 go_wp2_with fail
 refine h.mono ?_
 rintro e w1 ⟨a1,c1,rfl,t1,b1⟩
 go_wp2;go_ret
 exact⟨a1,c1,rfl,t1,b1⟩
theorem qhQ{cs:Array Value}{T:List Tk}(hc:cs.toList=dJ T)(hok:∀t∈T,t.1<256/\t.2<256)(hl:T.length<=100):bG (w.alloc (.cells cs 42)) (some ⟨w.heap.size,0,none⟩) T.length T.length T:=by
 have hs:cs.size=T.length*2:=by rw[<-Array.length_toList,hc,CP]
 have h1:(w.alloc (.cells cs 42)).ownsRow w.heap.size 42 2 (.slice (some ⟨w.heap.size,0,none⟩) T.length T.length) T.length (dJ T):=⟨CP T,Or.inr ⟨w.heap.size,T.length,cs,rfl,bZ,(dO w _).1,bZ,by unfold maxLen;omega,hs,by rw[hc,<-CP T,List.take_length]⟩⟩
 obtain⟨a,c,e,t,_⟩:=WO h1 hok;injection e with e1 _ e3;subst e1 e3;exact t
def ak:Tr->Tk
 | .leaf k=>k
 | .un k _=>k
 | .bin k _ _=>k
def aK(k:Tk)(v:Value):Value:=.agg #[.int .u8 k.1,.int .u8 k.2,v]
def bJ(w:World)(g o:Nat)(k:Tk)(u:Value):Prop:=w.cell? ⟨g,o,none⟩=some (.int .u8 k.1)/\w.cell? ⟨g,o+1,none⟩=some (.int .u8 k.2)/\w.cell? ⟨g,o+2,none⟩=some u
theorem bJ.up{o:Nat}{k:Tk}{u:Value}(h:bJ w g o k u)(hb:Below w.heap.size w w'):bJ w' g o k u:=⟨qf h.1 hb,qf h.2.1 hb,qf h.2.2 hb⟩
def eG(w:World):Tr->Value->Prop
 | .leaf _,v=>∃a c,v=.slice a 0 c
 | .un _ c,v=>∃g cap u,v=.slice (some ⟨g,0,none⟩) 1 cap/\bJ w g 0 (ak c) u/\eG w c u
 | .bin _ c d,v=>∃g cap u u',v=.slice (some ⟨g,0,none⟩) 2 cap/\bJ w g 0 (ak c) u/\bJ w g 3 (ak d) u'/\eG w c u/\eG w d u'
theorem eG.up{w w':World}(hb:Below w.heap.size w w'):∀{T:Tr}{v:Value},eG w T v->eG w' T v
 | .leaf _,_,h=>h
 | .un _ _,_,⟨g,cap,u,e,h1,h2⟩=>⟨g,cap,u,e,h1.up hb,eG.up hb h2⟩
 | .bin _ _ _,_,⟨g,cap,u,u',e,h1,h2,h3,h4⟩=>⟨g,cap,u,u',e,h1.up hb,h2.up hb,eG.up hb h3,eG.up hb h4⟩
theorem eG.sl:∀{T:Tr}{v:Value},eG w T v->∃a n c,v=.slice a n c
 | .leaf _,_,⟨a,c,e⟩=>⟨a,0,c,e⟩
 | .un _ _,_,⟨_,cap,_,e,_⟩=>⟨_,_,cap,e⟩
 | .bin _ _ _,_,⟨_,cap,_,_,e,_⟩=>⟨_,_,cap,e⟩
theorem UR:(prog.info? 77).map (·.size)=some 3:=by kernel_rfl
theorem qm(g n cap:Nat)(w:World)(hn:0<n):(Instr.indexAt 75 (.slice (some ⟨g,0,none⟩) n cap) (.int .i64 0)).run prog w=.ok (.pointer (some ⟨g,0,none⟩)) w:=by
 simp[Instr.indexAt,run_underlying underlying75,asIntOf,qZ UR,hn,Result.andThen,go_sem]
theorem qE(g n cap:Nat)(w:World)(hn:1<n):(Instr.indexAt 75 (.slice (some ⟨g,0,none⟩) n cap) (.int .i64 1)).run prog w=.ok (.pointer (some ⟨g,3,none⟩)) w:=by
 have hn':(1:Int)<(n:Int):=by omega
 simp[Instr.indexAt,run_underlying underlying75,asIntOf,qZ UR,hn',Result.andThen,go_sem,qi]
abbrev Nd:=Tk×Value
variable {ys:List Nd}
def fF(l:List Nd):List Value:=l.flatMap fun x=>[.int .u8 x.1.1,.int .u8 x.1.2,x.2]
theorem UU(x:Nd)(l:List Nd):fF (x::l)=.int .u8 x.1.1 :: .int .u8 x.1.2::x.2::fF l:=rfl
theorem qdY(xs ys:List Nd):fF (xs++ys)=fF xs++fF ys:=by simp[fF]
theorem UW:∀l:List Nd,(fF l).length=l.length*3
 | []=>rfl
 |x::l=>by rw[UU];simp[UW l];omega
theorem ox:∀(l:List Nd)(m:Nat),(fF l).take (m*3)=fF (l.take m)
 | [],m=>by simp[fF]
 |x::l,0=>by simp[fF]
 |x::l,m+1=>by
  rw[UU,show (m+1)*3=m*3+1+1+1 by omega,List.take_succ_cons,List.take_succ_cons,List.take_succ_cons,ox l m];rfl
theorem oy:∀(l:List Nd)(m:Nat),(fF l).drop (m*3)=fF (l.drop m)
 | [],m=>by simp[fF]
 |x::l,0=>by simp
 |x::l,m+1=>by
  rw[UU,show (m+1)*3=m*3+1+1+1 by omega,List.drop_succ_cons,List.drop_succ_cons,List.drop_succ_cons,oy l m];rfl
def jO(w:World)(B:Nat):Tr->Value->Prop
 | .leaf _,v=>∃a c,v=.slice a 0 c
 | .un _ c,v=>∃g cap u,v=.slice (some ⟨g,0,none⟩) 1 cap/\B<=g/\bJ w g 0 (ak c) u/\jO w B c u
 | .bin _ c d,v=>∃g cap u u',v=.slice (some ⟨g,0,none⟩) 2 cap/\B<=g/\bJ w g 0 (ak c) u/\bJ w g 3 (ak d) u'/\jO w B c u/\jO w B d u'
theorem jO.at{w:World}{B:Nat}:∀{T:Tr}{v:Value},jO w B T v->eG w T v
 | .leaf _,_,h=>h
 | .un _ _,_,⟨g,cap,u,e,_,h1,h2⟩=>⟨g,cap,u,e,h1,h2.at⟩
 | .bin _ _ _,_,⟨g,cap,u,u',e,_,h1,h2,h3,h4⟩=>⟨g,cap,u,u',e,h1,h2,h3.at,h4.at⟩
theorem jO.keep{w w':World}{B:Nat}(hk:∀g o k u,B<=g->bJ w g o k u->bJ w' g o k u):∀{T:Tr}{v:Value},jO w B T v->jO w' B T v
 | .leaf _,_,h=>h
 | .un _ _,_,⟨g,cap,u,e,hg,h1,h2⟩=>⟨g,cap,u,e,hg,hk _ _ _ _ hg h1,h2.keep hk⟩
 | .bin _ _ _,_,⟨g,cap,u,u',e,hg,h1,h2,h3,h4⟩=>⟨g,cap,u,u',e,hg,hk _ _ _ _ hg h1,hk _ _ _ _ hg h2,h3.keep hk,h4.keep hk⟩
theorem jO.up{w w':World}{B:Nat}{T:Tr}{v:Value}(hb:Below w.heap.size w w')(h:jO w B T v):jO w' B T v:=h.keep fun _ _ _ _ _ hn=>hn.up hb
theorem jO.set{x:Value}(hr:r<B)(h:jO w B T v):jO (w.setCell ⟨r,i,none⟩ x) B T v:=h.keep fun g o k u hg hn=>by
 have far:∀j y,w.cell? ⟨g,j,none⟩=some y->(w.setCell ⟨r,i,none⟩ x).cell? ⟨g,j,none⟩=some y:=fun j y h=>by
  rw[World.cell?_setCell_other _ _ _ _ (by intro e;injection e;omega)];exact h
 exact⟨far _ _ hn.1,far _ _ hn.2.1,far _ _ hn.2.2⟩
theorem jO.sl{w:World}{B:Nat}{T:Tr}{v:Value}(h:jO w B T v):∃a n c,v=.slice a n c:=h.at.sl
inductive jP (w:World) (B:Nat):List Nd->List Tr->Prop where
 |nil:jP w B [] []
 |cons {y:Nd} {T:Tr} {ys:List Nd} {st:List Tr}:y.1=ak T->jO w B T y.2->jP w B ys st->jP w B (y::ys) (T::st)
theorem jP.up{w w':World}{B:Nat}(hb:Below w.heap.size w w'):∀{ys:List Nd}{st:List Tr},jP w B ys st->jP w' B ys st
 |_,_,.nil=>.nil
 |_,_,.cons e h t=>.cons e (h.up hb) (t.up hb)
theorem jP.len{w:World}{B:Nat}:∀{ys:List Nd}{st:List Tr},jP w B ys st->ys.length=st.length
 |_,_,.nil=>rfl
 |_,_,.cons _ _ t=>by simp[t.len]
theorem jP.take{w:World}{B:Nat}:∀{ys:List Nd}{st:List Tr}(m:Nat),jP w B ys st->jP w B (ys.take m) (st.take m)
 |_,_,0,_=>.nil
 |_,_,_+1,.nil=>.nil
 |_,_,m+1,.cons e h t=>.cons e h (t.take m)
theorem jP.drop{w:World}{B:Nat}:∀{ys:List Nd}{st:List Tr}(m:Nat),jP w B ys st->jP w B (ys.drop m) (st.drop m)
 |_,_,0,h=>h
 |_,_,_+1,.nil=>.nil
 |_,_,m+1,.cons _ _ t=>t.drop m
theorem jP.snoc{w:World}{B:Nat}{y:Nd}{T:Tr}(he:y.1=ak T)(hy:jO w B T y.2):∀{ys:List Nd}{st:List Tr},jP w B ys st->jP w B (ys++[y]) (st++[T])
 |_,_,.nil=>.cons he hy .nil
 |_,_,.cons e h t=>.cons e h (t.snoc he hy)
theorem jP.one{w:World}{B:Nat}:∀{ys:List Nd}{st:List Tr},jP w B ys st->∀u∈fF ys,u.oneCell'=true
 |_,_,.nil,u,hu=>absurd hu (by simp[fF])
 |_,_,.cons (y:=y) e h t,u,hu=>by
  rw[UU]at hu;simp only[List.mem_cons]at hu
  obtain⟨a,n,c,e'⟩:=h.sl;rcases hu with rfl|rfl|rfl|hu
  ·rfl
  ·rfl
  ·rw[e'];rfl
  ·exact t.one u hu
structure FY(w:World)(b:Option Addr)(len cap:Nat)(ys:List Nd):Prop where
 hlen:ys.length=len
 nn:b=none->len=0/\cap=0
 c:∀x,b=some x->∀j u,(fF ys)[j]? =some u->w.cell? (x.add j)=some u
theorem FY.up{b:Option Addr}{len:Nat}(h:FY w b len cap ys)(hb:Below w.heap.size w w'):FY w' b len cap ys:=⟨h.hlen,h.nn,fun x hx j u hj=>qf (h.c x hx j u hj) hb⟩
theorem Qv(h:w.ownsRow base 77 3 v L (fF ys))(hm:m<=L):
  ∃a cap b,v=.slice a L cap/\(∀w',(Instr.sliceAt 75 (.slice a L cap) none (some (.int .i64 m)) none).run prog w'=.ok (.slice a m cap) w')/\FY w a m cap (ys.take m)/\(∀w',(Instr.sliceAt 75 (.slice a L cap) (some (.int .i64 m)) none none).run prog w'=.ok (.slice b (L-m) (cap-m)) w')/\FY w b (L-m) (cap-m) (ys.drop m):=by
 obtain⟨a,cap,rfl,h1,h2,h3,_,_⟩:=qO h hm;obtain⟨b,h5,h6,h7⟩:=xY (P:=prog) (T:=75) underlying75 UR a L cap m hm h1 h3;have hlen:ys.length=L:=by have:=h.1;rw[UW]at this;omega
 refine⟨a,cap,b,rfl,Aa underlying75 UR a L cap m hm h1 h3,⟨by simp;omega,fun e=>?_,?_⟩,h5,⟨by simp[hlen],fun e=>?_,?_⟩⟩
 ·have:=h3 e;omega
 ·intro x hx j u hj
  rcases h.2 with⟨e,e0⟩|⟨g,cap',cur,e,_,hcell,hnc,hcm,hsz,htk⟩
  ·injection e with e;rw[e]at hx;cases hx
  ·injection e with e1 _ e3
   rw[e1]at hx;injection hx with hx;subst hx;rw[<-ox]at hj
   have hj2:j<m*3:=by
    have:=(List.getElem?_eq_some_iff.1 hj).1
    simp at this;omega
   rw[List.getElem?_take,if_pos hj2,<-htk,List.getElem?_take,if_pos (by omega)]at hj
   rw[qi,Nat.zero_add,qc hcell];simpa using hj
 ·have:=h6 e;omega
 ·intro x hx j u hj
  rcases h.2 with⟨e,e0⟩|⟨g,cap',cur,e,_,hcell,hnc,hcm,hsz,htk⟩
  ·have:m=0:=by omega
   subst this e0;have:ys=[]:=List.eq_nil_of_length_eq_zero hlen
   subst this;simp[fF]at hj
  ·rw[<-oy,List.getElem?_drop,<-htk]at hj
   have hj2:=(List.getElem?_eq_some_iff.1 hj).1
   simp at hj2
   injection e with e1 _ e3;have:=h7 (by omega) _ e1
   rw[hx]at this;injection this with this;subst this;rw[List.getElem?_take,if_pos (by omega)]at hj
   rw[Ue,qi,Nat.zero_add,qc hcell];simpa using hj
theorem qdn:(prog.info? 77).map (fun i=>(i.zero,i.size,i.bytes))=some (some (.agg #[.int .u8 0,.int .u8 0,.slice none 0 0]),3,32):=by kernel_rfl
theorem YG{w:World}{ops:Array Oper}{rest:List Oper}{a:Act}{Q:Exit->Act->World->Prop}(hgd:o.guard=none)(s x:Operand)
  (ho:o.op=.call { callee:=.builtin .append,args:=#[s,x],argTypes:=#[75,75] }) (base:Nat)
  (v:Value) (n:Nat) (xs ys:List Nd) (b:Option Addr) (len cap:Nat) (hs:a.eval s=v) (hx:a.eval x=.slice b len cap) (hown:w.ownsRow base 77 3 v n (fF xs)) (hT:FY w b len cap ys) (h1:∀u∈fF ys,u.oneCell'=true)
  (hn:n<=1000000) (hm:ys.length<=1000000) (hbase:base<=w.heap.size)
  (h:∀v' w',w'.ownsRow base 77 3 v' (n+len) (fF (xs++ys))->w.grownBy w' v.ownBlock->wpList prog ops Q rest (a.put o.dst v') w'):wpList prog ops Q (o::rest) a w:=by
 refine wpList_plain hgd fun K hK=>?_
 obtain⟨i,hi,hz0,hz1,hz2⟩:=info_parts qdn;have hl:=hT.hlen
 cases b with
 |none=>
  obtain⟨hc1,hc2⟩:=hT.nn rfl;subst hc1 hc2;have hy:ys=[]:=List.eq_nil_of_length_eq_zero hl;subst hy;have hrun:=run_append_owned_none (P:=prog) w base 75 o.type 77 i 3 underlying75 hi v n (fF xs) hown;unfold Oper.wp execOp;simp only[ho,resolve,invoke,builtin,Sem.run_bind,Sem.run_pure,Result.andThen_ok,List.map_toArray,List.map_cons,List.map_nil,hs,hx,hrun]
  exact hK _ _ (h v w (by rw[List.append_nil];exact hown) (World.grownBy.refl _ _))
 |some y=>
  refine wp_append_own w s x 75 ho base 77 i _ 3 32 underlying75 hi hz0 hz1 hz2 rfl (by decide) v n _ hs hown y len cap (fF ys) hx (by rw[UW,hl]) (hT.c y rfl) h1 (by unfold maxLen;omega) (by omega) hbase ?_
  intro v' w' h2 h3 _;exact hK _ _ (h v' w' (by rw[qdY];exact h2) h3)
theorem qhG{a:List Tr}(k:Tk)(ho:w.ownsRow base 77 3 v n (fF ys))(hB:B<=base)(hg:jP w B ys a)(hl:ys.length=n)(hn:n<=2):jO w B (mkT k a) v:=by
 have key:∀g cur,w.heap[g]? =some (.cells cur 77 (0,0))->cur.toList.take (n*3)=fF ys->∀j u,(fF ys)[j]? =some u->w.cell? ⟨g,j,none⟩=some u:=fun g cur hcell htk j u hj=>by
  rw[<-htk]at hj;have hj2:=(List.getElem?_eq_some_iff.1 hj).1
  simp at hj2
  rw[List.getElem?_take,if_pos (by omega)]at hj
  rw[qc hcell];simpa using hj
 match ys,a,hg,hl,ho,key with
 | [],[],_,hl,ho,_=>
  obtain⟨x,c,e,_⟩:=qO ho (Nat.le_refl _);simp at hl
  subst hl;exact⟨x,c,e⟩
 | [y],[T],.cons e h _,hl,ho,key=>
  simp at hl
  subst hl;rcases ho.2 with⟨_,h0⟩|⟨g,cap,cur,rfl,hgb,hcell,_,_,_,htk⟩
  ·cases h0
  ·have q:=key g cur hcell htk
   refine⟨g,cap,y.2,rfl,by omega,⟨?_,?_,?_⟩,h⟩
   ·rw[<-e];exact q 0 _ rfl
   ·rw[<-e];exact q 1 _ rfl
   ·exact q 2 _ rfl
 | [y,z],[T,S],.cons e h (.cons e' h' _),hl,ho,key=>
  simp at hl
  subst hl;rcases ho.2 with⟨_,h0⟩|⟨g,cap,cur,rfl,hgb,hcell,_,_,_,htk⟩
  ·cases h0
  ·have q:=key g cur hcell htk
   refine⟨g,cap,y.2,z.2,rfl,by omega,⟨?_,?_,?_⟩,⟨?_,?_,?_⟩,h,h'⟩
   ·rw[<-e];exact q 0 _ rfl
   ·rw[<-e];exact q 1 _ rfl
   ·exact q 2 _ rfl
   ·rw[<-e'];exact q 3 _ rfl
   ·rw[<-e'];exact q 4 _ rfl
   ·exact q 5 _ rfl
 |_::_::_::_,_,_,hl,_,_=>simp at hl;omega
theorem qf9{a0 a1 a2:Value}{T:TypeId}(hr:w.heap[r]? =some (.cells #[a0,a1,a2] T (0,0)))(x y z:Value):
  (((w.setCell ⟨r,0,none⟩ x).setCell ⟨r,1,none⟩ y).setCell ⟨r,2,none⟩ z).cell? ⟨r,0,none⟩=some x/\(((w.setCell ⟨r,0,none⟩ x).setCell ⟨r,1,none⟩ y).setCell ⟨r,2,none⟩ z).cell? ⟨r,1,none⟩=some y/\(((w.setCell ⟨r,0,none⟩ x).setCell ⟨r,1,none⟩ y).setCell ⟨r,2,none⟩ z).cell? ⟨r,2,none⟩=some z:=by
 have h1:=heap_setCell_same w r 0 _ T x hr;have h2:=heap_setCell_same _ r 1 _ T y h1;have h3:=heap_setCell_same _ r 2 _ T z h2;simp[World.cell?,h3]
theorem qhe{y:Nd}{r:List Nd}(h:w.ownsRow base 77 3 (.slice a n cap) n (fF (y::r))):
  ∃g,(∀w',(Instr.indexAt 75 (.slice a n cap) (.int .i64 0)).run prog w'=.ok (.pointer (some ⟨g,0,none⟩)) w')/\bJ w g 0 y.1 y.2:=by
 have hl:=h.1;rw[UW,List.length_cons]at hl;rcases h.2 with⟨e,e0⟩|⟨g,cap',cur,e,_,hcell,hnc,hcm,hsz,htk⟩
 ·omega
 ·injection e with e1 _ e3
  subst e1 e3
  have key:∀j,j<n*3->w.cell? ⟨g,j,none⟩=(fF (y::r))[j]? := fun j hj=>by
   rw[<-htk,List.getElem?_take,if_pos hj];simp[World.cell?,hcell]
  refine⟨g,fun w'=>qm g n cap w' (by omega),?_,?_,?_⟩
  ·rw[key _ (by omega)];rfl
  ·rw[key _ (by omega)];rfl
  ·rw[key _ (by omega)];rfl
structure zu(ts:List Tk)(T:Tr):Prop where
 few:ts.length<=100000
 ok:∀k (h:k<ts.length),(∃m,bI ts[k]=some m)/\gu ts[k]<=(gS (ts.take k) []).length
 fin:gS ts []=[T]
theorem sD.wide(h:sD ts T):zu ts T:=⟨Nat.le_trans h.few (by decide),h.ok,h.fin⟩
theorem YH(h:T.WF)(hl:T.flat.length<=100000):zu T.flat T:=by
 obtain⟨_,h2⟩:=NK T h [] (2*wt T) bZ;refine⟨hl,fun k hk=>⟨(h2 k hk).tk,?_⟩,GU T h []⟩
 rw[VU _ [] [] rfl];exact(h2 k hk).le
def Dx(T:Tr)(w:World)(e:Ending)(w':World):Prop:=∃u,e=.returned (aK (ak T) u)/\jO w' (w.heap.size+1) T u/\Below w.heap.size w w'
theorem UY(a:Option Addr)(len cap:Nat)(ts:List Tk)(T:Tr)(w:World)(hT:bG w a len cap ts)(hG:zu ts T):
  Calls prog 36 #[.slice a len cap] w (Dx T w):=by
 have HT:=aX hT;have HLEN:Hid (ts.length=len):=hT.hlen;have HG:=aX hG;have hln:len<=100000:=by have:=hG.few;have:=hT.hlen;omega
 have HB0:Hid _:=qd w (tQ 0 0 none 0 0);have HR0:Hid _:=(MapKept.heap_alloc w (tQ 0 0 none 0 0)).1;have HZ0:Hid ((w.alloc (tQ 0 0 none 0 0)).heap.size=w.heap.size+1):=by show _=_;simp
 clear hT hG;(unfold tQ at *);go_enter func36,ntmps36
 go_wp2;generalize w.alloc (.cells #[.int .u8 0,.int .u8 0,.slice none 0 0] 77)=w0 at *
 go_loopw [3,4] (fun v i wr=>∃k:Nat,k<=len/\i=.int .i64 k/\(∃ys:List Nd,Hid (wr.ownsRow (w.heap.size+1) 77 3 v ys.length (fF ys))/\Hid (jP wr (w.heap.size+1) ys (gS (ts.take k) []))/\Hid (ys.length<=k))/\Hid (Below (w.heap.size+1) w0 wr)) (fun _ i _=>len-(intOf i).toNat)
 case atStart=>exact⟨0,Nat.zero_le _,rfl,⟨[],⟨rfl,Or.inl ⟨rfl,rfl⟩⟩,.nil,bZ⟩,Below.refl _ _⟩
 case round=>
  obtain⟨k,hk,rfl,⟨ys,HO,HE,rQ⟩,HW⟩:=hrel;have hll:=rQ.out;have PG:=HW.out.size;have hz0:=HZ0.out;have Dy:Hid (Below w.heap.size w wr):=HB0.out.trans (HW.out.mono (by omega))
  by_cases hlt:k<len
  ·have hxl:k<ts.length:=by have:=HLEN.out;omega
   obtain⟨g1,o1,s1,hi1,hx0,hx1,hg1,_⟩:=(HT.out.up Dy.out).at underlying22 qD k hlt;have hidx:=fun w'=>hi1 len w' hlt
   clear hi1;obtain⟨⟨n,hn⟩,hle⟩:=HG.out.ok k hxl;have fQ:Hid (gS (ts.take (k+1)) []=kY (gS (ts.take k) []) ts[k]):=Av hxl [];have htok:=HT.out.ok ts[k] (List.getElem_mem hxl);generalize ts[k]=t at *;have YI:=Ci hn;have hn2:=TF hn;have hti:iq t=(n:Int):=by unfold iq;rw[hn]
   obtain⟨op,p⟩:=t;dsimp only at hx0 hx1 fQ htok
   have Di:=fun w'=>iN op p w' htok.2
   rw[hti]at Di;have hel:=HE.out.len;unfold kY at fQ;rw[YI,<-hel]at fQ;rw[YI,<-hel]at hle;obtain⟨M,hM⟩:∃M,M=ys.length-n:=⟨_,rfl⟩
   rw[<-hM]at fQ;obtain⟨av,cv,bv,rfl,hpre,hgt,hcut,hgd⟩:=Qv HO.out (m:=M) (by omega)
   rw[show ys.length-M=n by omega]at hcut hgd
   have hwr:IntKind.i64.wrap ((ys.length:Int)-(n:Int))=(M:Int):=by rw[IntKind.wrap_i64];omega
   have Us:M<=ys.length:=by omega
   have Ac:Hid ((ys.take M).length=M):=by show _=_;simp;omega
   have HDL:Hid ((ys.drop M).length=n):=by show _=_;simp;omega
   have oR:Hid (jP wr (w.heap.size+1) (ys.take M) ((gS (ts.take k) []).take M)):=HE.out.take M;have Io:Hid (jP wr (w.heap.size+1) (ys.drop M) ((gS (ts.take k) []).drop M)):=HE.out.drop M;have HGT:=aX hgt;have HGD:=aX hgd;clear hgt hgd hn YI hle HO HE hM hti hel htok;generalize ys.take M=tk at *;generalize ys.drop M=dk at *;generalize (gS (ts.take k) []).take M=jtk at *;generalize (gS (ts.take k) []).drop M=oS at *;generalize ys.length=L at *
   go_wp2_with fail
   refine (Di _).mono ?_
   rintro e w1 ⟨rfl,hb1⟩
   have HB1:=aX hb1;have uw:Hid (w1.ownsRow w1.heap.size 77 3 (.slice none 0 0) 0 (fF [])):=⟨rfl,Or.inl ⟨rfl,rfl⟩⟩;have Qw:Hid (FY w1 bv n (cv-M) dk):=HGD.out.up hb1;have hdl:=HDL.out;have htl:=Ac.out;have hy0:=qf hx0 hb1;have hy1:=qf hx1 hb1;clear hb1 Di hx0 hx1
   go_wp2_with (at_builtin;refine YG rfl _ _ rfl w1.heap.size _ 0 [] dk bv n (cv-M) rfl rfl uw.out Qw.out Io.out.one (by omega) (by omega) bZ ?_)
   intro v2 w2 ho2 hg2;have hb2:Below w1.heap.size w1 w2:=(Below.refl _ _).grown hg2 bZ (fun j e=>by cases e)
   have ho2:w2.ownsRow w1.heap.size 77 3 v2 n (fF dk):=by simpa using ho2
   have Qx:Hid (jO w2 (w.heap.size+1) (mkT (op,p) oS) v2):=qhG (op,p) ho2 (by have:=HB1.out.size;omega) ((Io.out.up HB1.out).up hb2) hdl hn2
   have HB2:Hid (Below wr.heap.size wr w2):=qe HB1.out hb2;have hz0:=qf hy0 hb2;have hz1:=qf hy1 hb2;obtain⟨x2,d2,rfl,_⟩:=qO ho2 bZ;have l9:Hid (w2.ownsRow w2.heap.size 77 3 (.slice none 0 0) 0 (fF [])):=⟨rfl,Or.inl ⟨rfl,rfl⟩⟩;have Qy:Hid (FY w2 av M cv tk):=HGT.out.up HB2.out;clear ho2 hg2 hb2 hy0 hy1 uw Qw
   go_wp2_with (at_builtin;refine YG rfl _ _ rfl w2.heap.size _ 0 [] tk av M cv rfl rfl l9.out Qy.out oR.out.one (by omega) (by omega) bZ ?_)
   intro v3 w3 ho3 hg3;have hb3:Below w2.heap.size w2 w3:=(Below.refl _ _).grown hg3 bZ (fun j e=>by cases e)
   have ho3:w3.ownsRow w2.heap.size 77 3 v3 M (fF tk):=by simpa using ho3
   have hu0:=qf hz0 hb3;have hu1:=qf hz1 hb3;obtain⟨x3,d3,rfl,_⟩:=qO ho3 bZ;have hb4:=qe hb3 (qd w3 (.cells #[.int .u8 op,.int .u8 p,.slice x2 n d2] 77));have uz:Hid ((w3.alloc (.cells #[.int .u8 op,.int .u8 p,.slice x2 n d2] 77)).ownsRow w2.heap.size 77 3 (.slice x3 M d3) M (fF tk)):=qC ho3 (qd _ _);have hr4:=(dO w3 (.cells #[.int .u8 op,.int .u8 p,.slice x2 n d2] 77)).1
   have yZ:Hid (FY (w3.alloc (.cells #[.int .u8 op,.int .u8 p,.slice x2 n d2] 77)) (some ⟨w3.heap.size,0,none⟩) 1 1 [((op,p),.slice x2 n d2)]):=⟨rfl,fun e=>(by cases e),fun x hx j u hj=>by
    injection hx with hx;subst hx;rw[qi,Nat.zero_add,qc hr4];simpa [fF] using hj⟩
   have HB4:Hid _:=hb4;have JQ:=hb4.size;have o8:Hid _:=vO ho3
   have H1:Hid (∀u∈fF [((op,p),Value.slice x2 n d2)],u.oneCell'=true):=fun u hu=>by
    simp[fF]at hu
    rcases hu with rfl|rfl|rfl<;>rfl
   clear ho3 hg3 hb3 hz0 hz1 l9 Qy hr4 hb4
   go_wp2_with (at_builtin;refine YG rfl _ _ rfl w2.heap.size _ M tk [((op,p),.slice x2 n d2)] (some ⟨w3.heap.size,0,none⟩) 1 1 rfl rfl uz.out yZ.out H1.out (by omega) (by simp) JQ ?_)
   intro v5 w5 JW hg5;have hb5:Below w2.heap.size w2 w5:=HB4.out.grown hg5 JQ o8.out;have hbx:=qe HB2.out hb5
   have HF1:Hid (w5.ownsRow (w.heap.size+1) 77 3 v5 (tk++[((op,p),Value.slice x2 n d2)]).length (fF (tk++[((op,p),Value.slice x2 n d2)]))):=by
    show World.ownsRow _ _ _ _ _ _ _
    rw[List.length_append,htl];exact q6z JW (by have:=HB2.out.size;omega)
   have HF2:Hid (jP w5 (w.heap.size+1) (tk++[((op,p),Value.slice x2 n d2)]) (gS (ts.take (k+1)) [])):=by
    show jP _ _ _ _
    rw[fQ.out];refine jP.snoc ?_ (jO.up hb5 Qx.out) (oR.out.up hbx)
    show (op,p)=ak (mkT (op,p) oS)
    unfold mkT
    split<;>rfl
   have HF3:Hid (Below (w.heap.size+1) w0 w5):=HW.out.trans (hbx.mono (by omega))
   clear JW hg5 hb5 hbx uz yZ H1;go_wp2
   go_roundw
   case rel=>
    refine⟨k+1,by omega,by go_num,⟨tk++[((op,p),Value.slice x2 n d2)],HF1,HF2,?_⟩,HF3⟩
    show _<=_
    rw[List.length_append,htl];simp;omega
   case measure=>simp[intOf]<;>omega
  ·obtain rfl:k=len:=by omega
   have he:=HE.out;rw[List.take_of_length_le (by have:=HLEN.out;omega),HG.out.fin]at he
   obtain⟨y,rfl,hy0,hy⟩:∃y,ys=[y]/\y.1=ak T/\jO wr (w.heap.size+1) T y.2:=by
    cases he with
    |cons e h t=>cases t with|nil=>exact⟨_,rfl,e,h⟩
   obtain⟨av,cv,rfl,_⟩:=qO HO.out (Nat.le_refl _);have hget:∃g,(∀w',(Instr.indexAt 75 (.slice av 1 cv) (.int .i64 0)).run prog w'=.ok (.pointer (some ⟨g,0,none⟩)) w')/\bJ wr g 0 y.1 y.2:=qhe HO.out;obtain⟨g2,hi2,c20,c21,c22⟩:=hget;obtain⟨⟨ko,kp⟩,u⟩:=y;obtain⟨ua,un,uc,e'⟩:=hy.sl;dsimp only at hy hy0 e' c20 c21 c22
   subst e';have hrr:=(HW.out.block w.heap.size (by omega)).trans HR0.out
   have r0:=qc hrr 0;have r1:=qc hrr 1;have r2:=qc hrr 2;have f0:=frozen_of_row _ _ 0 _ _ hrr;have f1:=frozen_of_row _ _ 1 _ _ hrr;have f2:=frozen_of_row _ _ 2 _ _ hrr;simp at r0 r1 r2
   have HRR:Hid _:=hrr
   have HF:Hid (Dx T w (.returned (.agg #[.int .u8 ko,.int .u8 kp,.slice ua un uc])) (((wr.setCell ⟨w.heap.size,0,none⟩ (.int .u8 ko)).setCell ⟨w.heap.size,1,none⟩ (.int .u8 kp)).setCell ⟨w.heap.size,2,none⟩ (.slice ua un uc))):=by
    refine⟨.slice ua un uc,by unfold aK;rw[<-hy0],(((hy.set (Nat.lt_succ_self _)).set (Nat.lt_succ_self _)).set (Nat.lt_succ_self _)),?_⟩
    exact((Dy.out.setCell bZ _).setCell bZ _).setCell bZ _
   clear hy hy0 hrr HO HE he;go_wp2;have f:=qf9 HRR.out (.int .u8 ko) (.int .u8 kp) (.slice ua un uc);refine bodyPost_ret (v:=.agg #[.int .u8 ko,.int .u8 kp,.slice ua un uc]) (by simp[results,results36,go_sem,f.1,f.2.1,f.2.2]) rfl ?_
   exact HF.out
def aN(w:World)(g:Nat)(bs:List Bool):Prop:=w.heap[g]? =some (.cells (bs.map Value.bool).toArray 4 (0,0))
theorem aN.lt(h:aN w g bs):g<w.heap.size:=(lC h).1
theorem aN.up(h:aN w g bs)(hb:Below w.heap.size w w'):aN w' g bs:=(hb.block g h.lt).trans h
theorem aN.cell(h:aN w g bs)(hi:i<bs.length):w.cell? ⟨g,i,none⟩=some (.bool (bs.getD i false)):=by
 unfold aN at h;simp[World.cell?,h,List.getD_eq_getElem?_getD,List.getElem?_eq_getElem hi]
theorem aN.cell1{b:Bool}(h:aN w g [b]):w.cell? ⟨g,0,none⟩=some (.bool b):=h.cell (i:=0) (by simp)
theorem aN.fz(h:aN w g bs)(i:Nat):w.frozen? ⟨g,i,none⟩=false:=frozen_of_row w g i _ _ h
theorem aN.set(h:aN w g bs)(i:Nat)(b:Bool):aN (w.setCell ⟨g,i,none⟩ (.bool b)) g (bs.set i b):=by
 have:=heap_setCell_same w g i _ _ (.bool b) h
 unfold aN;rw[this];simp[List.map_set]
theorem aN.set1{a:Bool}(h:aN w g [a])(b:Bool):aN (w.setCell ⟨g,0,none⟩ (.bool b)) g [b]:=h.set 0 b
theorem qM(g n k:Nat)(w:World)(hk:k<n):(Instr.indexAt 66 (.slice (some ⟨g,0,none⟩) n n) (.int .i64 k)).run prog w=.ok (.pointer (some ⟨g,k,none⟩)) w:=by
 have:=yK (P:=prog) (T:=66) (e:=4) underlying66 gd (a:=some ⟨g,0,none⟩) (cap:=n) (n:=n) (by simp) k w hk
 simpa [aG,qi] using this
theorem qr(g:Nat)(w:World):(Instr.indexAt 66 (.slice (some ⟨g,0,none⟩) 1 1) (.int .i64 0)).run prog w=.ok (.pointer (some ⟨g,0,none⟩)) w:=qM g 1 0 w (by decide)
theorem Qz(v:Value)(n:Nat):madeCells #[v] n=(List.replicate n v).toArray:=by
 apply Array.ext_getElem?
 intro i;by_cases h:i<n
 ·simp[madeCells,h,Nat.mod_one]
 ·simp[madeCells,h]
theorem qdj:(prog.info? 4).map (fun i=>(i.zero,i.size,i.bytes))=some (some (.bool false),1,1):=by kernel_rfl
theorem YJ(l:Nat)(hb:l<=1000000)(w:World):
  (Instr.makeSlice 66 (.int .i64 l) (.int .i64 l)).run prog w=.ok (.slice (some ⟨w.heap.size,0,none⟩) l l) (w.alloc (.cells (Array.replicate l (Value.bool false)) 4)):=by
 obtain⟨i,hi,hz0,hz1,hz2⟩:=info_parts qdj;have:=run_make (P:=prog) w 66 4 i (.bool false) underlying66 hi hz0 .i64 .i64 (l:Int) (l:Int) (by omega) (by omega) (by rw[hz2];omega) (by omega)
 rw[this,hz1];simp only[Int.toNat_natCast,Nat.mul_one]
 have e:(Value.bool false).cells=#[.bool false]:=rfl;rw[e,Qz];simp
theorem MV(w:World):(Instr.makeSlice 66 (.int .i64 1) (.int .i64 1)).run prog w=.ok (.slice (some ⟨w.heap.size,0,none⟩) 1 1) (w.alloc (.cells #[.bool false] 4)):=YJ 1 (by omega) w
theorem aN.made(w:World)(l:Nat):aN (w.alloc (.cells (Array.replicate l (Value.bool false)) 4)) w.heap.size (List.replicate l false):=by
 unfold aN;rw[(MapKept.heap_alloc w _).1];simp
def zx(n:Nat)(bs:List Bool)(w:World)(e:Ending)(w':World):Prop:=∃g,e=.returned (.slice (some ⟨g,0,none⟩) n n)/\aN w' g bs/\Below w.heap.size w w'/\w.heap.size<=g
theorem YK(ga:Nat)(b:Bool)(w:World)(h:aN w ga [b]):Calls prog 136 #[.slice (some ⟨ga,0,none⟩) 1 1] w (zx 1 [!b] w):=by
 have hm:=MV w;have HB0:Hid (aN (w.alloc (.cells #[.bool false] 4)) w.heap.size [false]):=aN.made w 1;have HW0:Hid (Below w.heap.size w (w.alloc (.cells #[.bool false] 4))):=qd w _;have HA:=aX h;unfold zx;clear h;go_enter func136,ntmps136
 go_wp2;generalize w.alloc (.cells #[.bool false] 4)=w0 at *;clear hm
 go_loopw [4] (fun i wr=>∃k:Nat,k<=1/\i=.int .i64 k/\Hid (k=1->aN wr w.heap.size [!b])/\Hid (∃c,aN wr w.heap.size [c])/\Hid (Below w.heap.size w wr)) (fun i _=>1-(intOf i).toNat)
 case atStart=>exact⟨0,Nat.zero_le _,rfl,fun h=>absurd h (by decide),⟨_,HB0.out⟩,HW0⟩
 case round=>
  obtain⟨k,hk,rfl,HD,HC,HW⟩:=hrel;by_cases hlt:k<1
  ·obtain rfl:k=0:=by omega
   obtain⟨c,hc⟩:=HC.out;have hca:=(HA.out.up HW.out).cell1;have hi1:=fun w'=>qr ga w'
   have hi2:=fun w'=>qr w.heap.size w'
   have hcc:=hc.cell1;have hfz:=hc.fz 0;have HS:Hid _:=hc.set1 (!b);have YL:Hid (Below w.heap.size w (wr.setCell ⟨w.heap.size,0,none⟩ (.bool (!b)))):=HW.out.setCell bZ _;clear hc;go_wp2
   go_roundw
   case rel=>exact⟨1,by omega,by go_num,fun _=>HS.out,⟨_,HS.out⟩,YL⟩
   case measure=>simp[intOf]
  ·obtain rfl:k=1:=by omega
   have HD1:Hid (aN wr w.heap.size [!b]):=HD.out rfl;go_wp2;go_ret
   exact⟨_,rfl,HD1.out,HW.out,bZ⟩
theorem oY(ga gb:Nat)(w:World):Calls prog 137 #[.slice (some ⟨ga,0,none⟩) 1 1,.slice (some ⟨gb,0,none⟩) 1 1,.int .i64 0,.int .i64 0] w fun e w'=>e=.returned (.bool false)/\w'=w:=by
 go_enter func137,ntmps137
 go_wp2
 go_loopw [2] (fun i wr=>i=.int .i64 0/\wr=w) (fun i _=>0)
 case atStart=>exact⟨rfl,rfl⟩
 case round=>
  obtain⟨rfl,rfl⟩:=hrel;go_wp2;go_ret
  exact⟨rfl,rfl⟩
theorem o4(ga gb:Nat)(a b:Bool)(w:World)(hA:aN w ga [a])(hB:aN w gb [b]):Calls prog 138 #[.slice (some ⟨ga,0,none⟩) 1 1,.slice (some ⟨gb,0,none⟩) 1 1] w fun e w'=>e=.returned (.bool (a&&b))/\w'=w:=by
 have hca:=hA.cell1;have hcb:=hB.cell1;have hi1:=fun w'=>qr ga w'
 have hi2:=fun w'=>qr gb w'
 clear hA hB;go_enter func138,ntmps138
 go_wp2
 go_loopw [5] (fun i wr=>∃k:Nat,k<=1/\i=.int .i64 k/\Hid (k=1->(a&&b)=false)/\wr=w) (fun i _=>1-(intOf i).toNat)
 case atStart=>exact⟨0,Nat.zero_le _,rfl,fun h=>absurd h (by decide),rfl⟩
 case round=>
  obtain⟨k,hk,rfl,HD,rfl⟩:=hrel;by_cases hlt:k<1
  ·obtain rfl:k=0:=by omega
   cases a with
   |false=>
    go_wp2
    go_roundw
    case rel=>exact⟨1,by omega,by go_num,fun _=>rfl,trivial⟩
    case measure=>simp[intOf]
   |true=>
    cases b with
    |false=>
     go_wp2
     go_roundw
     case rel=>exact⟨1,by omega,by go_num,fun _=>rfl,trivial⟩
     case measure=>simp[intOf]
    |true=>
     go_wp2;go_ret
     exact⟨rfl,rfl⟩
  ·obtain rfl:k=1:=by omega
   have HX:Hid _:=HD.out rfl;go_wp2;go_ret
   exact⟨by rw[HX.out];rfl,rfl⟩
end Go.Proofs.YtoioiellaomonaaGreatDoor
