import Derived.Deep.WholeRow
import Derived.Deep.RegionHeld3
import Derived.Deep.DeepCutAuto
import Derived.Laws.CopyRow
import Derived.Test.YtoioiellaomonaaGreatDoorZ03
import Derived.Test.YtoioiellaomonaaGreatDoorZ05
import Derived.Test.YtoioiellaomonaaGreatDoorZ06
set_option maxRecDepth 100000
set_option maxHeartbeats 16000000
namespace Go.Proofs.YtoioiellaomonaaGreatDoor
open Go.RowKit Go.Maps Proofs.Tryz
variable {w w':World}{g op i k o cap n base len:Nat}{t e T:TypeId}{p:Pt}{ps:List Pt}{P:Program}{v:Value}{a:Option Addr}{ops:Array Oper}{rest:List Oper}{Q:Exit->Act->World->Prop}{cur ts:List Tk}{zs:List Int}
def stB(t:List Nat):Array Value:=((List.range 256).map fun x=>Value.bool (decide (x∈t))).toArray
theorem BZ(t:List Nat):(stB t).size=256:=by simp[stB]
theorem Nk(t:List Nat){x:Nat}(hx:x<256):(stB t)[x]? =some (.bool (decide (x∈t))):=by simp[stB,hx]
theorem qhV(t:List Nat)(x:Nat):(stB t).setIfInBounds x (.bool true)=stB (t++[x]):=by
 apply Array.ext_getElem?
 intro i;rw[Array.getElem?_setIfInBounds];by_cases hi:i<256
 ·rw[Nk _ hi,Nk _ hi]
  by_cases e:x=i
  ·subst e;simp[BZ,hi]
  ·have:¬i=x:=fun h=>e h.symm
   simp[e,this]
 ·have h1:(stB t)[i]? =none:=Array.getElem?_eq_none (by rw[BZ];omega)
  have h2:(stB (t++[x]))[i]? =none:=Array.getElem?_eq_none (by rw[BZ];omega)
  rw[h1,h2,BZ]
  split
  ·split<;>simp;omega
  ·rfl
theorem qhT:stB []=Array.replicate 256 (.bool false):=by
 apply Array.ext_getElem?
 intro i;by_cases hi:i<256
 ·rw[Nk _ hi];simp[hi]
 ·rw[Array.getElem?_eq_none (by rw[BZ];omega),Array.getElem?_eq_none (by simp;omega)]
theorem qhU(t:List Nat):(stB t).all (·.oneCell')=true:=by
 rw[Array.all_eq_true];intro i hi;rw[BZ]at hi;have:(stB t)[i]? =some (.bool (decide (i∈t))):=Nk t hi
 rw[Array.getElem?_eq_some_iff]at this;rw[this.2]
 rfl
theorem td:(prog.info? 63).map (fun i=>(i.zero,i.size))=some (some (.agg (Array.replicate 256 (.bool false))),256):=by kernel_rfl
theorem qdS(w:World):(zeroValue 63).run prog w=.ok (.agg (stB [])) w:=by rw[qhT];exact(zero_of_info td).1 w
theorem Nl:(prog.info? 63).map (·.size)=some 256:=(zero_of_info td).2
theorem qey(g x:Nat)(hx:x<256)(w:World):(Instr.indexAt 63 (.pointer (some ⟨g,0,none⟩)) (.int .u8 x)).run prog w=.ok (.pointer (some ⟨g,x,none⟩)) w:=by
 simp[Instr.indexAt,run_underlying underlying63,asIntOf,qU (show (prog.info? 4).map (·.size)=some 1 by kernel_rfl),hx,Result.andThen,go_sem,qi]
def mF(w:World)(g:Nat)(t:List Nat):Prop:=w.heap[g]? =some (.cells (stB t) 63 (0,0))
theorem mF.lt{t:List Nat}(h:mF w g t):g<w.heap.size:=(lC h).1
theorem mF.cells{t:List Nat}(h:mF w g t):(storeCells ⟨g,0,none⟩ (stB t).toList).run prog w=.ok () (w.setRow g (stB t)):=by
 have:=run_storeVar_row (P:=prog) w g _ 63 (stB t) (stB t) h (by rw[BZ];exact Nl) rfl (qhU t)
 cases hq:prog.info? 63 with
 |none=>have:=Nl;simp[hq]at this
 |some i=>
  have hs:(stB t).size=i.size:=by have:=Nl;simp[hq]at this;rw[BZ];omega
  simpa [storeVar,sizeOf,typeInfo,hq,Value.cells,hs] using this
theorem q66(d:Option Addr)(m c:Nat)(zs:List Int)(w:World)(hL:lX w d m c zs):
  Calls prog 26 #[.slice d m c] w fun e w'=>e=.returned (.agg (stB (zN zs)))/\Below w.heap.size w w':=by
 have hz:=fun w=>qdS w
 have hlen:=hL.sl.hlen;have hbd:=Nat.le_trans hL.sl.hcap hL.sl.bd;unfold maxLen at hbd;have HL:Hid _:=hL;have Rw:Hid (mF (w.alloc (.cells (stB []) 63)) w.heap.size []):=(dO w _).1;have HB0:Hid _:=qd w (.cells (stB []) 63);clear hL;have pX:Hid _:=hlen;clear hlen;obtain⟨t,ht⟩:∃t,t=zN zs:=⟨_,rfl⟩
 rw[<-ht];have KF:=aX ht;clear ht;go_enter func26,ntmps26
 go_wp2
 go_loopw [7] (fun i wr=>∃k:Nat,k<=m/\i=.int .i64 k/\Hid (mF wr w.heap.size (t.take k))/\Hid (Below w.heap.size w wr)) (fun i _=>m-(intOf i).toNat)
 case atStart=>exact⟨0,Nat.zero_le _,rfl,Rw,HB0⟩
 case round=>
  clear Rw HB0 hz;obtain⟨k,hk,rfl,HV,HB⟩:=hrel;by_cases hlt:k<m
  ·have hkz:k<zs.length:=by have:=pX.out;omega
   have hS:=HL.out.sl.up HB.out;have hix:=fun w'=>hS.idx m k w' hlt bZ
   have hce:=hS.cell k hlt;have hok:=HL.out.ok zs[k] (List.getElem_mem hkz);have hgd:zs.getD k 0=zs[k]:=by simp[List.getD,hkz]
   rw[hgd]at hce;obtain⟨x,hx⟩:=Int.eq_ofNat_of_zero_le hok.1;have xq:x<256:=by omega
   have fQ:Hid (t.take k++[x]=t.take (k+1)):=by
    show _=_
    rw[KF.out];have hkn:k<(zN zs).length:=by rw[H9];exact hkz
    rw[<-List.take_append_getElem hkn]
    congr 2
    simp[zN,hx]
   rw[hx]at hce;have hit:=fun w'=>qey w.heap.size x xq w'
   obtain⟨b,cb⟩:∃b,wr.cell? ⟨w.heap.size,x,none⟩=some (.bool b):=⟨_,(qc HV.out x).trans (Nk _ xq)⟩
   have zb:wr.frozen? ⟨w.heap.size,x,none⟩=false:=frozen_of_row _ _ x _ _ HV.out
   have HVN:Hid (mF (wr.setCell ⟨w.heap.size,x,none⟩ (.bool true)) w.heap.size (t.take (k+1))):=by
    unfold mF
    show _=_
    rw[heap_setCell_same wr _ x _ _ (.bool true) HV.out,<-fQ.out,<-qhV]
   have Dl:Hid (Below w.heap.size w (wr.setCell ⟨w.heap.size,x,none⟩ (.bool true))):=HB.out.setCell bZ _;clear hS hok hgd hx fQ HV HB;generalize aG d k=ad at *;obtain⟨g,o,s⟩:=ad;go_wp2
   go_roundw
   case rel=>exact⟨k+1,by omega,by go_num,HVN,Dl⟩
   case measure=>simp[intOf]<;>omega
  ·obtain rfl:k=m:=by omega
   have hv:=HV.out;rw[List.take_of_length_le (by rw[KF.out,H9];have:=pX.out;omega)]at hv
   have jK:Hid (mF (wr.setRow w.heap.size (stB t)) w.heap.size t):=by
    unfold mF
    show _=_
    rw[setRow_heap _ _ _ _ _ _ hv]
   have HB2:Hid (Below w.heap.size w (wr.setRow w.heap.size (stB t))):=Wq HB.out bZ _;clear HV HB;have HVV:=aX hv;clear hv;go_wp2;refine wp_load_row 63 _ rfl w.heap.size rfl 63 (stB t) (0,0) _ HVV.out underlying63 rfl (by rw[BZ];exact Nl) ?_
   have hsc:=HVV.out.cells;go_wp2;refine bodyPost_ret (v:=.agg (stB t)) ?_ rfl ⟨rfl,HB2.out⟩
   exact results_cell_row results26 _ _ w.heap.size 63 (stB t) (0,0) _ rfl jK.out underlying63 rfl (by rw[BZ];exact Nl)
def bQ(p:Pt):Array Value:=#[.bool p.path,.bool p.plain,.int .i64 p.dep,.int .i64 p.yH]
def aQ(w:World)(g:Nat)(t:TypeId)(p:Pt):Prop:=w.heap[g]? =some (.cells (bQ p) t (0,0))
theorem aQ.lt(h:aQ w g t p):g<w.heap.size:=(lC h).1
theorem aQ.up(h:aQ w g t p)(hb:Below w.heap.size w w'):aQ w' g t p:=(hb.block g h.lt).trans h
theorem aQ.c0(h:aQ w g t p):w.cell? ⟨g,0,none⟩=some (.bool p.path):=by unfold aQ at h;simp[World.cell?,h,bQ]
theorem aQ.c1(h:aQ w g t p):w.cell? ⟨g,1,none⟩=some (.bool p.plain):=by unfold aQ at h;simp[World.cell?,h,bQ]
theorem aQ.c2(h:aQ w g t p):w.cell? ⟨g,2,none⟩=some (.int .i64 p.dep):=by unfold aQ at h;simp[World.cell?,h,bQ]
theorem aQ.c3(h:aQ w g t p):w.cell? ⟨g,3,none⟩=some (.int .i64 p.yH):=by unfold aQ at h;simp[World.cell?,h,bQ]
theorem aQ.fz(h:aQ w g t p)(i:Nat):w.frozen? ⟨g,i,none⟩=false:=frozen_of_row w g i _ t h
theorem aQ.set1(h:aQ w g t p)(x:Bool):aQ (w.setCell ⟨g,1,none⟩ (.bool x)) g t { p with plain:=x }:=heap_setCell_same w g 1 _ t (.bool x) h
theorem aQ.set2(h:aQ w g t p)(x:Nat):aQ (w.setCell ⟨g,2,none⟩ (.int .i64 x)) g t { p with dep:=x }:=heap_setCell_same w g 2 _ t (.int .i64 x) h
theorem aQ.ZE(h:aQ w g t p)(x:Nat):aQ (w.setCell ⟨g,3,none⟩ (.int .i64 x)) g t { p with yH:=x }:=heap_setCell_same w g 3 _ t (.int .i64 x) h
theorem qcy{l:List Pt}(h:∀x∈l,x.dep<=1000000):∀(d:Nat),d<=1000001->l.foldl (fun d x=>max d (x.dep+1)) d<=1000001:=by
 induction l with
 |nil=>intro d hd;exact hd
 |cons y r ih=>
  intro d hd;have hy:=h y (by simp)
  exact ih (fun x hx=>h x (List.mem_cons_of_mem _ hx)) _ (by dsimp only;omega)
def gY(op i:Nat)(ps:List Pt)(k:Nat):Pt:=⟨dw op,aU op&&(ps.take k).all (·.plain),(ps.take k).foldl (fun d x=>max d (x.dep+1)) 1,i⟩
theorem qf4(h:k<ps.length):gY op i ps (k+1)={ gY op i ps k with plain:=(gY op i ps k).plain&&ps[k].plain,dep:=max (gY op i ps k).dep (ps[k].dep+1) }:=by
 have e:ps.take (k+1)=ps.take k++[ps[k]]:=by rw[List.take_add_one,kU h];rfl
 unfold gY;rw[e,List.all_append,List.foldl_append,<-Bool.and_assoc];simp
theorem qg0(h:∀x∈ps,x.dep<=1000000):(gY op i ps k).dep<=1000001:=qcy (fun x hx=>h x (List.mem_of_mem_take hx)) 1 (by decide)
theorem qfZ{pp:Nat}:dZ (op,pp) ps i={ gY op i ps ps.length with yH:=(dZ (op,pp) ps i).yH }:=by
 unfold gY dZ;simp
theorem aQ.other{g':Nat}(h:aQ w g t p)(hne:g≠g')(i:Nat)(x:Value):aQ (w.setCell ⟨g',i,none⟩ x) g t p:=(Below.heap_setCell _ _ _ _ hne).trans h
theorem qb5(op pp i:Nat)(a:Option Addr)(g o len cap:Nat)(ps:List Pt)(w:World)(hS:lW prog 129 w a g o len cap ps)(hl2:len<=2)(hop:op<=23)(hd:∀x∈ps,x.dep<=1000000):
  Calls prog 107 #[.agg #[.int .u8 op,.int .u8 pp],.slice a len cap,.int .i64 i] w fun e w'=>e=.returned (.agg (bQ (dZ (op,pp) ps i)))/\Below w.heap.size w w':=by
 have hip:=fun w=>LO op w
 have hpl:=fun w=>LR op w hop
 have hidx:=fun (k:Nat) (w:World) (h:k<len)=>hS.idx len k w h bZ
 have hlen:=hS.hlen;go_enter func107,ntmps107
 go_upto_region 1 with fail
 go_cut [7] (fun t wx=>t=.pointer (some ⟨w.heap.size+1+1,0,none⟩)/\Hid (aQ wx (w.heap.size+1+1) 133 (gY op i ps 0))/\Hid (aQ wx (w.heap.size+1) 133 ⟨false,false,0,0⟩)/\Hid (Below w.heap.size w wx))
 case first=>
  go_region_held3 (fun w'=>w'.cell? ⟨w.heap.size,0,none⟩=some (.int .u8 op)) (simp[go_sem]) (first|(go_at_call 131;refine (hip _).mono ?_;rintro e w' ⟨rfl,rfl⟩)|(go_at_call 132;refine (hpl _).mono ?_;rintro e w' ⟨rfl,rfl⟩))
  all_goals
   go_wp2_with fail
   go_meet
   refine⟨rfl,?_,?_,?_⟩
   ·show aQ _ _ _ _
    have:=(dO ((w.alloc (.cells #[.int .u8 op,.int .u8 pp] 42)).alloc (.cells #[.bool false,.bool false,.int .i64 0,.int .i64 0] 133)) (.cells #[.bool (dw op),.bool (aU op),.int .i64 1,.int .i64 i] 133)).1
    have h2:aQ (((w.alloc (.cells #[.int .u8 op,.int .u8 pp] 42)).alloc (.cells #[.bool false,.bool false,.int .i64 0,.int .i64 0] 133)).alloc (.cells #[.bool (dw op),.bool (aU op),.int .i64 1,.int .i64 i] 133)) (w.heap.size+1+1) 133 (gY op i ps 0):=by simpa [aQ,gY,bQ] using this
    exact h2
   ·show aQ _ _ _ _
    have:=(dO (w.alloc (.cells #[.int .u8 op,.int .u8 pp] 42)) (.cells #[.bool false,.bool false,.int .i64 0,.int .i64 0] 133)).1
    have h2:aQ ((w.alloc (.cells #[.int .u8 op,.int .u8 pp] 42)).alloc (.cells #[.bool false,.bool false,.int .i64 0,.int .i64 0] 133)) (w.heap.size+1) 133 ⟨false,false,0,0⟩:=by simpa [aQ,bQ] using this
    exact h2.up (qd _ _).drew
   ·show Below _ _ _
    exact((((qd w _).alloc (by simp) _).alloc (by simp;omega) _)).drew
 case rest=>
  obtain⟨rfl,hB,hZ,hbw⟩:=hcut;go_wp2
  go_loopw [8] (fun j wr=>∃k:Nat,k<=len/\j=.int .i64 k/\Hid (aQ wr (w.heap.size+1+1) 133 (gY op i ps k))/\Hid (aQ wr (w.heap.size+1) 133 ⟨false,false,0,0⟩)/\Hid (Below w.heap.size w wr)) (fun j _=>len-(intOf j).toNat)
  case atStart=>exact⟨0,Nat.zero_le _,rfl,hB,hZ,hbw⟩
  case round=>
   obtain⟨k,hk,rfl,EI,EJ,hbk⟩:=hrel;by_cases hlt:k<len
   ·have hkl:k<ps.length:=by omega
    have HN:Hid _:=qf4 (op:=op) (i:=i) hkl;have hdk:=qg0 (op:=op) (i:=i) (k:=k) hd;have hdx:=hd ps[k] (List.getElem_mem hkl);have hgw:g<w.heap.size:=hS.blk (by omega)
    have tf:=hS.up hbk.out;have hp1:=tf.c1 k hkl;have hp2:=tf.c2 k hkl;have hq1:=EI.out.c1;have hf1:=EI.out.fz 1;have HB1:∀x,Hid (aQ _ _ _ _):=fun x=>EI.out.set1 x
    have hq2:=fun x=>(HB1 x).out.c2
    have hf2:=fun x=>(HB1 x).out.fz 2
    have hp2':∀x,(wr.setCell ⟨w.heap.size+1+1,1,none⟩ x).cell? ⟨g,o+4*k+2,none⟩=some (.int .i64 (ps[k].dep:Int)):=fun x=>by
     rw[<-hp2];exact World.cell?_setCell_other _ _ _ _ (by intro e;injection e;omega)
    have hw1:∀z:Nat,z<=1000000->IntKind.i64.wrap ((z:Int)+1)=((z+1:Nat):Int):=fun z hz=>by rw[IntKind.wrap_i64];omega
    have hwx:=hw1 _ hdx;generalize hP:gY op i ps k=P at *;obtain⟨p0,p1,p2,p3⟩:=P;generalize hX:ps[k]=X at *;obtain⟨x0,x1,x2,x3⟩:=X;dsimp only at *
    clear hidx;have hidx:=fun w=>hS.idx len k w hlt bZ
    cases p1 with
    |false=>
     go_wp2;by_cases hm:p2<x2+1
     ·go_region
      go_wp2;refine⟨⟨k+1,by omega,by go_num,?_,?_,?_⟩,by simp[intOf];omega⟩
      ·show aQ _ _ _ _
       have h:=(HB1 false).out.set2 (x2+1);have e:gY op i ps (k+1)=⟨p0,false,(x2+1),p3⟩:=by rw[HN.out];simp;omega
       rw[e];exact h
      ·show aQ _ _ _ _
       exact(aQ.other (aQ.other EJ.out (by omega) _ _) (by omega) _ _)
      ·show Below _ _ _
       exact((hbk.out.setCell (by dsimp only;omega) _).setCell (by dsimp only;omega) _).drew
     ·go_region
      go_wp2;refine⟨⟨k+1,by omega,by go_num,?_,?_,?_⟩,by simp[intOf];omega⟩
      ·show aQ _ _ _ _
       have h:=(HB1 false).out.set2 p2;have e:gY op i ps (k+1)=⟨p0,false,p2,p3⟩:=by rw[HN.out];simp;omega
       rw[e];exact h
      ·show aQ _ _ _ _
       exact(aQ.other (aQ.other EJ.out (by omega) _ _) (by omega) _ _)
      ·show Below _ _ _
       exact((hbk.out.setCell (by dsimp only;omega) _).setCell (by dsimp only;omega) _).drew
    |true=>
     go_wp2;by_cases hm:p2<x2+1
     ·go_region
      go_wp2;refine⟨⟨k+1,by omega,by go_num,?_,?_,?_⟩,by simp[intOf];omega⟩
      ·show aQ _ _ _ _
       have h:=(HB1 x1).out.set2 (x2+1);have e:gY op i ps (k+1)=⟨p0,x1,(x2+1),p3⟩:=by rw[HN.out];simp;omega
       rw[e];exact h
      ·show aQ _ _ _ _
       exact(aQ.other (aQ.other EJ.out (by omega) _ _) (by omega) _ _)
      ·show Below _ _ _
       exact((hbk.out.setCell (by dsimp only;omega) _).setCell (by dsimp only;omega) _).drew
     ·go_region
      go_wp2;refine⟨⟨k+1,by omega,by go_num,?_,?_,?_⟩,by simp[intOf];omega⟩
      ·show aQ _ _ _ _
       have h:=(HB1 x1).out.set2 p2;have e:gY op i ps (k+1)=⟨p0,x1,p2,p3⟩:=by rw[HN.out];simp;omega
       rw[e];exact h
      ·show aQ _ _ _ _
       exact(aQ.other (aQ.other EJ.out (by omega) _ _) (by omega) _ _)
      ·show Below _ _ _
       exact((hbk.out.setCell (by dsimp only;omega) _).setCell (by dsimp only;omega) _).drew
   ·obtain rfl:k=len:=by omega
    have hz0:=EJ.out.c0;have hz1:=EJ.out.c1;have hz2:=EJ.out.c2;have hz3:=EJ.out.c3;have hy:=EJ.out.fz;by_cases h0:k=0
    ·subst h0
     have HE:Hid _:=(List.eq_nil_of_length_eq_zero hlen);have HP:Hid (dZ (op,pp) ps i=gY op i ps 0):=by show _=_;rw[HE.out];simp[dZ,gY]
     have hq0:=EI.out.c0;have hq1:=EI.out.c1;have hq2:=EI.out.c2;have hq3:=EI.out.c3;go_wp2;refine bodyPost_ret (v:=.agg (bQ (gY op i ps 0))) (by simp[results,results107,go_sem,hz0,hz1,hz2,hz3,bQ]) rfl ⟨by rw[HP.out],?_⟩
     exact(((hbk.out.setCell (by dsimp only;omega) _).setCell (by dsimp only;omega) _).setCell (by dsimp only;omega) _).setCell (by dsimp only;omega) _
    ·have hkl:0<ps.length:=by omega
     have hp3:=(hS.up hbk.out).c3 0 hkl;have D8:∀w,(Instr.indexAt 129 (.slice a k cap) (.int .i64 0)).run prog w=.ok (.pointer (some ⟨g,o+4*0,none⟩)) w:=fun w=>hS.idx k 0 w (by omega) bZ
     have HP:Hid (dZ (op,pp) ps i={ gY op i ps k with yH:=ps[0].yH }):=by
      show _=_;rw[qfZ,hlen]
      match ps,hkl with
      |x::r,_=>rfl
     have hf3:=EI.out.fz 3;have hq3:=EI.out.c3;have HB3:Hid (aQ _ _ _ _):=EI.out.ZE ps[0].yH;have hr0:=HB3.out.c0;have hr1:=HB3.out.c1;have hr2:=HB3.out.c2;have hr3:=HB3.out.c3;have HZ3:Hid (aQ (wr.setCell ⟨w.heap.size+1+1,3,none⟩ (.int .i64 (ps[0].yH:Int))) (w.heap.size+1) 133 ⟨false,false,0,0⟩):=aQ.other EJ.out (by omega) _ _
     have hy0:=HZ3.out.c0;have hy1:=HZ3.out.c1;have hy2:=HZ3.out.c2;have hy3:=HZ3.out.c3;have hyf:=HZ3.out.fz;have hk0:(0:Int)<(k:Int):=by omega
     go_wp2;refine bodyPost_ret (v:=.agg (bQ { gY op i ps k with yH:=ps[0].yH })) (by simp[results,results107,go_sem,hy0,hy1,hy2,hy3,bQ]) rfl ⟨by rw[HP.out],?_⟩
     exact((((hbk.out.setCell (by dsimp only;omega) _).setCell (by dsimp only;omega) _).setCell (by dsimp only;omega) _).setCell (by dsimp only;omega) _).setCell (by dsimp only;omega) _
def gq(ps:List Pt):List Value:=ps.flatMap fun p=>(bQ p).toList
theorem Ve(p:Pt)(ps:List Pt):gq (p::ps)=.bool p.path :: .bool p.plain :: .int .i64 p.dep :: .int .i64 p.yH::gq ps:=rfl
theorem qdZ(xs ys:List Pt):gq (xs++ys)=gq xs++gq ys:=by simp[gq]
theorem Rx:∀ps:List Pt,(gq ps).length=ps.length*4
 | []=>rfl
 |p::ps=>by rw[Ve];simp[Rx ps];omega
theorem Ry:∀(ps:List Pt)(k:Nat)(h:k<ps.length),(gq ps)[4*k]? =some (.bool ps[k].path)/\(gq ps)[4*k+1]? =some (.bool ps[k].plain)/\(gq ps)[4*k+2]? =some (.int .i64 (ps[k].dep:Int))/\(gq ps)[4*k+3]? =some (.int .i64 (ps[k].yH:Int))
 | [],k,h=>absurd h (by simp)
 |p::ps,0,_=>⟨rfl,rfl,rfl,rfl⟩
 |p::ps,k+1,h=>by
  have:=Ry ps k (by simpa using h)
  rw[Ve,show 4*(k+1)=4*k+1+1+1+1 by omega,show 4*k+1+1+1+1+1=4*k+1+1+1+1+1 from rfl,show 4*k+1+1+1+1+2=4*k+2+1+1+1+1 by omega,show 4*k+1+1+1+1+3=4*k+3+1+1+1+1 by omega,show 4*k+1+1+1+1+1=(4*k+1)+1+1+1+1 by omega]
  simpa using this
theorem tg(ps:List Pt):∀u∈gq ps,u.oneCell'=true:=by
 intro u hu;unfold gq at hu;obtain⟨p,_,hc⟩:=List.mem_flatMap.1 hu;simp[bQ]at hc
 rcases hc with rfl|rfl|rfl|rfl<;>rfl
theorem ti:(prog.info? 133).map (·.size)=some 4:=by kernel_rfl
theorem tj:(prog.info? 133).map (fun i=>(i.zero,i.size,i.bytes))=some (some (.agg #[.bool false,.bool false,.int .i64 0,.int .i64 0]),4,24):=by kernel_rfl
theorem Np(h:(P.info? e).map (·.size)=some 4)(w:World):(sizeOf e).run P w=.ok 4 w:=by
 cases hq:P.info? e with
 |none=>simp[hq]at h
 |some i=>simp[hq]at h;simp[sizeOf,typeInfo,hq,h]
theorem qhi(hu:P.underlying T=some (.slice e))(hs:(P.info? e).map (·.size)=some 4){g o cap:Nat}(k:Nat)(w:World)(hk:k<n):
  (Instr.indexAt T (.slice (some ⟨g,o,none⟩) n cap) (.int .i64 k)).run P w=.ok (.pointer (some ⟨g,o+4*k,none⟩)) w:=by
 simp[Instr.indexAt,run_underlying hu,asIntOf,Np hs,hk,Result.andThen,go_sem,qi,Nat.mul_comm]
theorem qgF(h:w.ownsRow base e 4 v n (gq ps))(hu:P.underlying T=some (.slice e))(hs:(P.info? e).map (·.size)=some 4):
  (v=.slice none 0 0/\n=0/\ps=[])\/∃g cap,v=.slice (some ⟨g,0,none⟩) n cap/\base<=g/\∀lo,lo<=n->lW P T w (some ⟨g,4*lo,none⟩) g (4*lo) (n-lo) (cap-lo) (ps.drop lo):=by
 obtain⟨hl,h⟩:=h;rw[Rx]at hl;have hl':ps.length=n:=by omega
 rcases h with⟨rfl,rfl⟩|⟨g,cap,cur,rfl,hg,hcell,hnc,hcm,hsz,htk⟩
 ·exact Or.inl ⟨rfl,rfl,List.eq_nil_of_length_eq_zero hl'⟩
 ·have hlt:g<w.heap.size:=(lC hcell).1
  have key:∀j,j<n*4->w.cell? ⟨g,j,none⟩=(gq ps)[j]? := fun j hj=>by
   rw[<-htk,List.getElem?_take,if_pos hj];simp[World.cell?,hcell]
  refine Or.inr ⟨g,cap,rfl,hg,fun lo hlo=>?_⟩
  have hget:∀k (h:k<(ps.drop lo).length),(ps.drop lo)[k]=ps[lo+k]'(by simp at h;omega):=fun k h=>by simp
  have hof:∀k,4*lo+4*k=4*(lo+k):=fun k=>by omega
  refine⟨by simp;omega,by omega,by omega,fun m k w hk hm=>qhi hu hs k w hk,fun k hk=>?_,fun k hk=>?_,fun k hk=>?_,fun k hk=>?_,fun _=>hlt⟩ <;>
  ·have hk':lo+k<ps.length:=by simp at hk;omega
   rw[hget k hk,hof,key _ (by omega)]
   first
   |exact(Ry ps (lo+k) hk').1
   |exact(Ry ps (lo+k) hk').2.1
   |exact(Ry ps (lo+k) hk').2.2.1
   |exact(Ry ps (lo+k) hk').2.2.2
theorem aQ.cells(h:aQ w g t p):∀j u,(bQ p).toList[j]? =some u->w.cell? ((⟨g,0,none⟩:Addr).add j)=some u:=by
 intro j u hj;rw[qi,Nat.zero_add];unfold aQ at h;simp only[World.cell?,h]
 simpa using hj
theorem tp(ps:List Pt)(m:Nat):(gq ps).take (m*4)=gq (ps.take m):=by
 induction ps generalizing m with
 |nil=>simp[gq]
 |cons p ps ih=>
  cases m with
  |zero=>simp[gq]
  |succ m=>rw[Ve,show (m+1)*4=m*4+1+1+1+1 by omega,List.take_succ_cons,List.take_succ_cons,List.take_succ_cons,List.take_succ_cons,ih,List.take_succ_cons,Ve]
theorem ZF(h:cap<=maxLen):lW P T w a g o 0 cap [] :=
 ⟨rfl,Nat.zero_le _,h,fun n k w h1 h2=>absurd h1 (by omega),fun k h=>absurd h (by simp),fun k h=>absurd h (by simp),fun k h=>absurd h (by simp),fun k h=>absurd h (by simp),fun h=>absurd h (by omega)⟩
theorem qil(h:w.ownsRow base e 4 v n (gq ps))(hu:P.underlying T=some (.slice e))(hs:(P.info? e).map (·.size)=some 4):
  ∃a g cap,v=.slice a n cap/\((a=none/\n=0/\cap=0)\/a=some ⟨g,0,none⟩)/\lW P T w a g 0 n cap ps /\
   (∀lo,lo<=n->∃a',(∀w',(Instr.sliceAt T (.slice a n cap) (some (.int .i64 lo)) none none).run P w'=.ok (.slice a' (n-lo) (cap-lo)) w')/\lW P T w a' g (4*lo) (n-lo) (cap-lo) (ps.drop lo)) /\
   (∀m,m<=n->(∀w',(Instr.sliceAt T (.slice a n cap) none (some (.int .i64 m)) none).run P w'=.ok (.slice a m cap) w')/\∀j,j<m*4->w.cell? ⟨g,j,none⟩=(gq (ps.take m))[j]?):=by
 have h':=h;have hh:=qgF h hu hs;rcases hh with⟨rfl,rfl,rfl⟩|⟨g,cap,rfl,hg,hP⟩
 ·refine⟨none,0,0,rfl,Or.inl ⟨rfl,rfl,rfl⟩,ZF (Nat.zero_le _),fun lo hlo=>?_,fun m hm=>?_⟩
  ·obtain rfl:lo=0:=by omega
   refine⟨none,fun w'=>?_,ZF (Nat.zero_le _)⟩
   simp[Instr.sliceAt,Instr.slice,run_underlying hu,Np hs,go_sem]
  ·obtain rfl:m=0:=by omega
   refine⟨fun w'=>?_,fun j hj=>absurd hj (by omega)⟩
   simp[Instr.sliceAt,Instr.slice,run_underlying hu,Np hs,go_sem]
 ·obtain⟨hl,h⟩:=h'
  rw[Rx]at hl;have h0:=hP 0 (Nat.zero_le _);rw[List.drop_zero,Nat.sub_zero,Nat.sub_zero,Nat.mul_zero]at h0;refine⟨some ⟨g,0,none⟩,g,cap,rfl,Or.inr rfl,h0,fun lo hlo=>?_,fun m hm=>?_⟩
  ·have hcap:=h0.hcap
   by_cases hz:cap=lo
   ·refine⟨some ⟨g,0,none⟩,fun w'=>?_,?_⟩
    ·have hz2:cap-lo=0:=by omega
     simp[Instr.sliceAt,Instr.slice,run_underlying hu,Np hs,go_sem,hlo,hz2]
     exact fun h=>absurd hz h
    ·have e1:n-lo=0:=by omega
     rw[e1,List.drop_of_length_le (by omega)]
     exact ZF (by have:=h0.bd;omega)
   ·refine⟨some ⟨g,4*lo,none⟩,fun w'=>?_,hP lo hlo⟩
    simp[Instr.sliceAt,Instr.slice,run_underlying hu,Np hs,go_sem,hlo,qi,Nat.mul_comm]
    exact fun h=>absurd h hz
  ·refine⟨fun w'=>?_,fun j hj=>?_⟩
   ·have hcap:=h0.hcap
    have hmc:m<=cap:=by omega
    simp[Instr.sliceAt,Instr.slice,run_underlying hu,Np hs,go_sem,hmc]
   ·rcases h with⟨hn,_⟩|⟨g',cap',cur,hv,_,hcell,hnc,hcm,hsz,htk⟩
    ·exact absurd hn (by simp)
    ·injection hv with hv _ _
     injection hv with hv;injection hv with hv _ _;subst hv;rw[<-tp,<-htk,List.take_take,Nat.min_eq_left (by omega),List.getElem?_take,if_pos hj]
     simp[World.cell?,hcell]
theorem tr{w:World}{ops:Array Oper}{rest:List Oper}{o:Oper}{a:Act}{Q:Exit->Act->World->Prop}(hgd:o.guard=none)(s x:Operand)
  (ho:o.op=.call { callee:=.builtin .append,args:=#[s,x],argTypes:=#[129,129] }) (base:Nat)
  (v:Value) (n:Nat) (ps:List Pt) (hs:a.eval s=v) (hown:w.ownsRow base 133 4 v n (gq ps)) (g:Nat) (p:Pt) (hx:a.eval x=.slice (some ⟨g,0,none⟩) 1 1) (hB:aQ w g 133 p)
  (hn:n<=1000000) (hbase:base<=w.heap.size)
  (h:∀v' w',w'.ownsRow base 133 4 v' (n+1) (gq (ps++[p]))->w.grownBy w' v.ownBlock->(v'.ownBlock=v.ownBlock\/v'.ownBlock=some w.heap.size)->wpList prog ops Q rest (a.put o.dst v') w'):wpList prog ops Q (o::rest) a w:=by
 obtain⟨i,hi,hz0,hz1,hz2⟩:=info_parts tj;refine wpList_append_own_at w hgd s x 129 ho base 133 i _ 4 24 underlying129 hi hz0 hz1 hz2 rfl (by decide) v n _ hs hown ⟨g,0,none⟩ 1 1 (bQ p).toList hx rfl hB.cells (fun u hu=>tg [p] u (by simpa [gq] using hu)) (by unfold maxLen;omega) (by omega) hbase ?_
 intro v' w' h1 h2 _ h3;exact h v' w' (by rw[qdZ];simpa [gq] using h1) h2 h3
theorem q7Y{w:World}{ops:Array Oper}{rest:List Oper}{o:Oper}{a:Act}{Q:Exit->Act->World->Prop}(hgd:o.guard=none)(s x:Operand)
  (ho:o.op=.call { callee:=.builtin .append,args:=#[s,x],argTypes:=#[129,129] }) (base:Nat)
  (hs:a.eval s=.slice none 0 0) (b:Option Addr) (g m cap:Nat) (ps:List Pt) (hx:a.eval x=.slice b m cap) (hb:(b=none/\m=0/\cap=0)\/b=some ⟨g,0,none⟩) (hl:ps.length=m)
  (hc:∀j,j<m*4->w.cell? ⟨g,j,none⟩=(gq ps)[j]?)
  (hn:m<=1000000) (hbase:base<=w.heap.size)
  (h:∀v' w',w'.ownsRow base 133 4 v' m (gq ps)->w.grownBy w' none->(v'.ownBlock=none\/v'.ownBlock=some w.heap.size)->wpList prog ops Q rest (a.put o.dst v') w'):wpList prog ops Q (o::rest) a w:=by
 obtain⟨i,hi,hz0,hz1,hz2⟩:=info_parts tj;have hnil:w.ownsRow base 133 4 (.slice none 0 0) 0 []:=⟨rfl,Or.inl ⟨rfl,rfl⟩⟩;rcases hb with⟨rfl,rfl,rfl⟩|rfl
 ·refine wpList_plain hgd fun _ hK=>?_
  obtain rfl:=List.eq_nil_of_length_eq_zero hl
  have hrun:=run_append_owned_none (P:=prog) w base 129 o.type 133 i 4 underlying129 hi (.slice none 0 0) 0 [] hnil;unfold Oper.wp execOp;simp only[ho,resolve,invoke,builtin,Sem.run_bind,Sem.run_pure,Result.andThen_ok,List.map_toArray,List.map_cons,List.map_nil,hs,hx,hrun]
  exact hK _ _ (h _ w hnil (World.grownBy.refl _ _) (Or.inl rfl))
 ·refine wpList_append_own_at w hgd s x 129 ho base 133 i _ 4 24 underlying129 hi hz0 hz1 hz2 rfl (by decide) (.slice none 0 0) 0 [] hs hnil ⟨g,0,none⟩ m cap (gq ps) hx (by rw[Rx,hl]) (fun j u hj=>?_) (tg ps) (by unfold maxLen;omega) (by omega) hbase ?_
  ·rw[qi,Nat.zero_add,hc j (by have:=(List.getElem?_eq_some_iff.1 hj).1;rw[Rx,hl]at this;exact this)];exact hj
  ·intro v' w' h1 h2 _ h3
   exact h v' w' (by simpa using h1) h2 h3
def Rz(T:TypeId)(r:Option (List Pt×List Pt))(w:World)(e:Ending)(w':World):Prop :=
 match r with
 |none=>e=.returned (.tuple #[.slice none 0 0,.slice none 0 0,.bool false])
 |some x=>∃v1 v2,e=.returned (.tuple #[v1,v2,.bool true])/\w'.ownsRow w.heap.size T 4 v1 x.1.length (gq x.1)/\w'.ownsRow w.heap.size T 4 v2 x.2.length (gq x.2)
theorem qg5{p:Nat}(h:bI (op,p)=some n):op<=23:=by
 unfold bI at h
 split at h
 ·cases h
 ·next h2=>dsimp only at h2;omega
theorem aQ.new(w:World)(t:TypeId)(p:Pt):aQ (w.alloc (.cells (bQ p) t)) w.heap.size t p:=(dO w _).1
theorem aQ.grown{row:Option Nat}(h:aQ w g t p)(hg:w.grownBy w' row)(hne:row≠some g):aQ w' g t p:=(hg.block g h.lt (fun e=>hne e.symm)).trans h
theorem qfS{e m:Nat}(h:w.ownsRow base e 4 (.slice a n cap) n (gq ps))(hsh:(a=none/\n=0/\cap=0)\/a=some ⟨g,0,none⟩)(hm:m<=n):∀j,j<m*4->w.cell? ⟨g,j,none⟩=(gq (ps.take m))[j]? := by
 intro j hj;obtain⟨hl,h⟩:=h;rcases h with⟨hn,h0⟩|⟨g',cap',cur,hv,_,hcell,hnc,hcm,hsz,htk⟩
 ·omega
 ·injection hv with hv _ _
  rcases hsh with⟨h1,h2,_⟩|h1
  ·omega
  ·rw[h1]at hv
   injection hv with hv;injection hv with hv _ _;subst hv;rw[<-tp,<-htk,List.take_take,Nat.min_eq_left (by omega),List.getElem?_take,if_pos hj]
   simp[World.cell?,hcell]
theorem qaq(a:Option Addr)(len cap:Nat)(ts:List Tk)(w:World)(hT:bG w a len cap ts)(hn:len<=100000):
  Calls prog 82 #[.slice a len cap] w fun e w'=>Rz 133 (dG ts 0 []) w e w'/\Below w.heap.size w w':=by
 have hlen:=hT.hlen;go_enter func82,ntmps82
 go_wp2
 go_loopw [5,6,7] (fun v1 v2 j wr=>∃(k:Nat) (all st:List Pt),k<=len/\j=.int .i64 k/\all.length=k/\st.length<=k/\(∀x∈st,x.dep<=k)/\Hid (dG ts 0 []=(dG (ts.drop k) k st).map fun x=>(all++x.1,x.2))/\Hid (wr.ownsRow w.heap.size 133 4 v1 all.length (gq all))/\Hid (wr.ownsRow w.heap.size 133 4 v2 st.length (gq st))/\Hid (∀b1,v1.ownBlock=some b1->v2.ownBlock≠some b1)/\Hid (Below w.heap.size w wr)) (fun _ _ j _=>len-(intOf j).toNat)
 case atStart=>exact⟨0,[],[],Nat.zero_le _,rfl,rfl,Nat.le_refl _,by simp,by show _=_;simp,⟨rfl,Or.inl ⟨rfl,rfl⟩⟩,⟨rfl,Or.inl ⟨rfl,rfl⟩⟩,fun b h=>by simp[Value.ownBlock]at h,Below.refl _ _⟩
 case round=>
  obtain⟨k,all,st,hk,rfl,hal,hst,hdp,HR,uw,l9,HD,hbk⟩:=hrel;by_cases hlt:k<len
  ·have hkl:k<ts.length:=by omega
   obtain⟨g,o,s,D8,hc0,hc1,hgw,_⟩:=(hT.up hbk.out).at underlying22 qD k hlt;have hidx:=fun w'=>D8 len w' hlt
   clear D8;obtain⟨hop,hpp⟩:=hT.ok ts[k] (List.getElem_mem hkl);have HC:Hid _:=List.drop_eq_getElem_cons hkl;have ou:Hid _:=HR.out.trans (congrArg _ (congrFun (congrFun (congrArg dG HC.out) k) st));generalize ts[k]=t at *;obtain⟨op,pp⟩:=t;dsimp only at *
   have HS:Hid (dG ts 0 []=Option.map (fun x=>(all++x.1,x.2)) (match bI (op,pp) with|none=>none|some n=>if st.length<n then none else if bT op (st.drop (st.length-n)) then (dG (ts.drop (k+1)) (k+1) (st.take (st.length-n)++[dZ (op,pp) (st.drop (st.length-n)) k])).map (fun x=>(dZ (op,pp) (st.drop (st.length-n)) k::x.1,x.2)) else none)):=ou.out.trans (congrArg _ QR)
   clear ou HR HC;have htk:=fun w=>iN op pp w hpp
   obtain⟨a2,g2,cap2,rfl,hsh,hP2,Aj,Ak⟩:=qil l9.out underlying129 ti
   cases htn:bI (op,pp) with
   |none=>
    have HF:Hid (dG ts 0 []=none):=by show _=_;rw[HS.out,htn];rfl
    have hti:iq (op,pp)=-1:=by unfold iq;rw[htn]
    rw[hti]at htk;clear HS Aj Ak hP2 hsh
    go_wp2_with fail
    refine (htk _).mono ?_
    rintro e w1 ⟨rfl,hw1⟩
    go_wp2;refine bodyPost_ret (v:=.tuple #[.slice none 0 0,.slice none 0 0,.bool false]) (by simp[results,results82,go_sem]) rfl ⟨?_,qe hbk.out hw1⟩
    rw[HF.out];rfl
   |some n=>
    have hti:iq (op,pp)=(n:Int):=by unfold iq;rw[htn]
    rw[hti]at htk;rw[htn]at HS;dsimp only at HS
    have hn2:=TF htn;have RD:=qg5 htn;by_cases hnl:st.length<n
    ·have HF:Hid (dG ts 0 []=none):=by show _=_;rw[HS.out,if_pos hnl];rfl
     have hg1:((st.length:Nat):Int)<(n:Int):=by omega
     clear HS Aj Ak hP2 hsh
     go_wp2_with fail
     refine (htk _).mono ?_
     rintro e w1 ⟨rfl,hw1⟩
     go_wp2;refine bodyPost_ret (v:=.tuple #[.slice none 0 0,.slice none 0 0,.bool false]) (by simp[results,results82,go_sem]) rfl ⟨?_,qe hbk.out hw1⟩
     rw[HF.out];rfl
    ·have HS2:Hid _:=HS.out
     rw[if_neg hnl]at HS2;clear HS;obtain⟨lo,hlo⟩:∃lo,lo=st.length-n:=⟨_,rfl⟩
     have hwl:IntKind.i64.wrap (((st.length:Nat):Int)-(n:Int))=(lo:Int):=by rw[IntKind.wrap_i64];omega
     rw[<-hlo]at HS2;have hlo2:lo+n=st.length:=by omega
     clear hlo;have hA:decide ((n:Int)<0)=false:=decide_eq_false (by omega)
     have hBd:decide (((st.length:Nat):Int)<(n:Int))=false:=decide_eq_false (by omega)
     obtain⟨a9,ZG,ZH⟩:=Aj lo (by omega)
     obtain⟨hslT,RF⟩:=Ak lo (by omega)
     have HCT:Hid _:=RF;clear Aj Ak RF hP2;have hnn:st.length-lo=n:=by omega
     rw[hnn]at ZG ZH;generalize cap2-lo=Gv at *;have hdl:∀x∈st.drop lo,x.dep<=1000000:=fun x hx=>by have:=hdp x (List.mem_of_mem_drop hx);omega
     have hdk:∀x∈st.drop lo,x.dep<=k:=fun x hx=>hdp x (List.mem_of_mem_drop hx)
     have hfit:=fun w' (h:lW prog 129 w' a9 g2 (4*lo) n Gv (st.drop lo))=>Nx op pp a9 g2 (4*lo) n Gv _ w' h htn
     have hput:=fun w' (h:lW prog 129 w' a9 g2 (4*lo) n Gv (st.drop lo))=>qb5 op pp k a9 g2 (4*lo) n Gv _ w' h hn2 RD hdl
     have hpd:=Q0 (t:=(op,pp)) (i:=k) hdk;have hltk:st.take lo++[]=st.take lo:=by simp
     generalize st.drop lo=args at *
     go_wp2_with fail
     refine (htk _).mono ?_
     rintro e w1 ⟨rfl,hw1⟩
     have hd0:=qf hc0 hw1;have hd1:=qf hc1 hw1;have hP1:=ZH.up hw1;have hb1:Hid (Below w.heap.size w w1):=qe hbk.out hw1;have RG:Hid (World.ownsRow _ _ _ _ _ _ _):=qC uw.out hw1;have RH:Hid (World.ownsRow _ _ _ _ _ _ _):=qC l9.out hw1;clear hc0 hc1 ZH
     go_wp2_with fail
     refine (hfit _ hP1).mono ?_
     rintro e w2 ⟨rfl,hq2⟩
     have hw2:=WL hq2;have hb2:Hid (Below w.heap.size w w2):=qe hb1.out hw2;have RI:Hid (World.ownsRow _ _ _ _ _ _ _):=qC RG.out hw2;have RJ:Hid (World.ownsRow _ _ _ _ _ _ _):=qC RH.out hw2;have he0:=qf hd0 hw2;have he1:=qf hd1 hw2;have hP2:=hP1.up hw2;clear hd0 hd1 hP1 hq2 hfit RG RH hb1 htk;by_cases hfp:bT op args=true
     ·have lS:Hid _:=HS2.out
      rw[if_pos hfp,Option.map_map]at lS;clear HS2;rw[hfp]
      go_wp2_with fail
      refine (hput _ hP2).mono ?_
      rintro e w3 ⟨rfl,hw3⟩
      have hb3:Hid (Below w.heap.size w w3):=qe hb2.out hw3;have KG:Hid (World.ownsRow _ _ _ _ _ _ _):=qC RI.out hw3;have KH:Hid (World.ownsRow _ _ _ _ _ _ _):=qC RJ.out hw3;clear hput hP2 he0 he1 RI RJ hb2 hfp;generalize dZ (op,pp) args k=P at *;have hm3:=hb3.out.size;have ZI:P.dep<=k+1:=hpd;have IK:(st.take lo).length=lo:=by simp;omega
      have tt:Hid _:=hsh;have HA:Hid (aQ (w3.alloc (.cells (bQ P) 133)) w3.heap.size 133 P):=aQ.new w3 133 P;have hsz1:(w3.alloc (.cells (bQ P) 133)).heap.size=w3.heap.size+1:=by simp
      have HA2:Hid (aQ _ _ _ _):=aQ.new (w3.alloc (.cells (bQ P) 133)) 133 P;rw[hsz1]at HA2;have HA1:Hid (aQ _ _ _ _):=aQ.up HA.out (qd _ (.cells (bQ P) 133));have RN:Hid (World.ownsRow _ _ _ _ _ _ _):=World.ownsRow.alloc (World.ownsRow.alloc KG.out (.cells (bQ P) 133)) (.cells (bQ P) 133);have RQ:Hid (World.ownsRow _ _ _ _ _ _ _):=World.ownsRow.alloc (World.ownsRow.alloc KH.out (.cells (bQ P) 133)) (.cells (bQ P) 133);have hb5:Hid (Below w.heap.size w ((w3.alloc (.cells (bQ P) 133)).alloc (.cells (bQ P) 133))):=(hb3.out.alloc (by omega) _).alloc (by simp;omega) _
      have Me:Hid (P=P):=rfl;obtain⟨p0,p1,p2,p3⟩:=P;dsimp only[bQ]at *
      clear hsh uw l9
      go_wp2_with (at_builtin;refine tr rfl _ _ rfl w.heap.size _ all.length all rfl RN.out (w3.heap.size+1) ⟨p0,p1,p2,p3⟩ rfl HA2.out (by omega) (by simp;omega) ?_)
      intro v5 w5 hown5 hgr5 ZJ;have hlt1:=World.ownsRow.lt KG.out;have hlt2:=World.ownsRow.lt KH.out;have xg:Hid (aQ w5 w3.heap.size 133 ⟨p0,p1,p2,p3⟩):=aQ.grown HA1.out hgr5 (fun e=>by have:=hlt1 _ e;omega)
      have KI:=aX hown5
      have RS:Hid (World.ownsRow w5 _ _ _ _ _ _):=World.ownsRow.kept RQ.out hgr5 (by
       cases h4:(Value.slice a2 st.length cap2).ownBlock with
       |none=>exact Or.inl rfl
       |some j=>exact Or.inr (fun e=>HD.out j e.symm h4))
      have hb6:Hid (Below w.heap.size w w5):=hb5.out.grown hgr5 (by simp;omega) (fun j e=>(hlt1 j e).1)
      have hs5:w3.heap.size+1+1<=w5.heap.size:=by have:=hgr5.size;simpa using this
      have IL:=World.ownsRow.lt KI.out;have RF:∀j,j<lo*4->w5.cell? ⟨g2,j,none⟩=(gq (st.take lo))[j]? := qfS RS.out tt.out (by omega)
      have ZK:Hid _:=RF
      have ZL:Hid ((a2=none/\lo=0/\cap2=0)\/a2=some ⟨g2,0,none⟩):=by
       rcases tt.out with⟨h1,h2,h3⟩|h1
       ·exact Or.inl ⟨h1,by omega,h3⟩
       ·exact Or.inr h1
      clear hown5 hgr5 ZJ RN RQ hb5 HA HA1 HA2 KG KH RF HCT
      go_wp2_with (at_builtin;refine q7Y rfl _ _ rfl w.heap.size rfl a2 g2 lo cap2 (st.take lo) rfl ZL.out IK ZK.out (by omega) (by omega) ?_)
      intro v6 w6 hown6 tH RU;have DR:Hid (aQ w6 w3.heap.size 133 ⟨p0,p1,p2,p3⟩):=aQ.grown xg.out tH (by simp)
      have RV:Hid (World.ownsRow w6 _ _ _ _ _ _):=World.ownsRow.kept KI.out tH (by
       cases h4:v5.ownBlock with
       |none=>exact Or.inl rfl
       |some j=>exact Or.inr (by simp))
      have RX:=aX hown6;have hb7:Hid (Below w.heap.size w w6):=hb6.out.grown tH (by omega) (fun j e=>(by cases e))
      have hs6:w5.heap.size<=w6.heap.size:=tH.size;have RY:=World.ownsRow.lt RX.out;have RZ:=World.ownsRow.lt RV.out
      have HD6:Hid (∀b1,v5.ownBlock=some b1->v6.ownBlock≠some b1):=fun b1 h e=>by
       rcases RU with h3|h3
       ·rw[h3]at e;cases e
       ·rw[h3]at e;injection e with e;have:=IL b1 h;omega
      clear hown6 tH RU KI RS xg hb6 IL;have h60:=DR.out.c0;have tw:=DR.out.c1;have tA:=DR.out.c2;have h63:=DR.out.c3;dsimp only at h60 tw tA h63
      have HN:Hid (aQ _ _ _ _):=aQ.new w6 133 ⟨p0,p1,p2,p3⟩;have ZM:Hid (World.ownsRow _ _ _ _ _ _ _):=World.ownsRow.alloc RX.out (.cells (bQ ⟨p0,p1,p2,p3⟩) 133)
      go_wp2_with (at_builtin;refine tr rfl _ _ rfl w.heap.size _ lo (st.take lo) rfl ZM.out w6.heap.size ⟨p0,p1,p2,p3⟩ rfl HN.out (by omega) (by simp;omega) ?_)
      intro v7 w7 jC mD Si;have ZN:=aX jC
      have ZO:Hid (World.ownsRow w7 _ _ _ _ _ _):=World.ownsRow.kept (World.ownsRow.alloc RV.out (.cells (bQ ⟨p0,p1,p2,p3⟩) 133)) mD (by
       cases h4:v5.ownBlock with
       |none=>exact Or.inl rfl
       |some j=>exact Or.inr (fun e=>HD6.out j h4 e.symm))
      have hb8:Hid (Below w.heap.size w w7):=(hb7.out.alloc (by omega) _).grown mD (by simp;omega) (fun j e=>(RY j e).1)
      have HD7:Hid (∀b1,v5.ownBlock=some b1->v7.ownBlock≠some b1):=fun b1 h e=>by
       rcases Si with h3|h3
       ·rw[h3]at e;exact HD6.out b1 h e
       ·rw[h3]at e;injection e with e;have:=RZ b1 h;omega
      clear jC mD Si h60 tw tA h63;go_wp2
      go_roundw
      case rel=>
       refine⟨k+1,all++[⟨p0,p1,p2,p3⟩],st.take lo++[⟨p0,p1,p2,p3⟩],by omega,by go_num,by simp;omega,by simp;omega,?_,?_,?_,?_,HD7,hb8⟩
       ·intro x hx
        rcases List.mem_append.1 hx with h|h
        ·have:=hdp x (List.mem_of_mem_take h);omega
        ·rw[List.mem_singleton.1 h];exact ZI
       ·show _=_
        rw[lS.out]
        congr 1
        funext x
        simp
       ·show World.ownsRow _ _ _ _ _ _ _
        have h:=ZO.out;rw[List.length_append,hal];exact h
       ·show World.ownsRow _ _ _ _ _ _ _
        have h:=ZN.out;rw[List.length_append,IK];exact h
      case measure=>simp[intOf];omega
     ·have tB:bT op args=false:=by simpa using hfp
      have HF:Hid (dG ts 0 []=none):=by show _=_;rw[HS2.out,if_neg hfp];rfl
      rw[tB];clear HS2 hfp tB;go_wp2;refine bodyPost_ret (v:=.tuple #[.slice none 0 0,.slice none 0 0,.bool false]) (by simp[results,results82,go_sem]) rfl ⟨?_,hb2.out⟩
      rw[HF.out];rfl
  ·obtain rfl:k=len:=by omega
   have HE:Hid (dG ts 0 []=some (all,st)):=by
    show _=_
    rw[HR.out,List.drop_of_length_le (by omega)];simp[dG]
   go_wp2;refine bodyPost_ret (v:=.tuple #[u5,u6,.bool true]) (by simp[results,results82,go_sem]) rfl ⟨?_,hbk.out⟩
   rw[HE.out];exact⟨_,_,rfl,uw.out,l9.out⟩
def jB(w:World)(e:TypeId)(g:Nat)(cur:List Tk):Prop:=w.heap[g]? =some (.cells (dJ cur).toArray e (0,0))
theorem jB.lt(h:jB w e g cur):g<w.heap.size:=(lC h).1
theorem jB.up(h:jB w e g cur)(hb:Below w.heap.size w w'):jB w' e g cur:=(hb.block g h.lt).trans h
theorem jB.c0(h:jB w e g cur)(hi:i<cur.length):w.cell? ⟨g,2*i,none⟩=some (.int .u8 (cur[i].1:Int)):=by
 unfold jB at h;simp only[World.cell?,h];simpa using (E5 cur i hi).1
theorem jB.c1(h:jB w e g cur)(hi:i<cur.length):w.cell? ⟨g,2*i+1,none⟩=some (.int .u8 (cur[i].2:Int)):=by
 unfold jB at h;simp only[World.cell?,h];simpa using (E5 cur i hi).2
theorem jB.frozen{w:World}{e:TypeId}{g:Nat}{cur:List Tk}(h:jB w e g cur)(i:Nat):w.frozen? ⟨g,i,none⟩=false:=frozen_of_row w g i _ e h
theorem tG:∀(cur:List Tk)(i:Nat)(t:Tk),((dJ cur).set (2*i) (.int .u8 t.1)).set (2*i+1) (.int .u8 t.2)=dJ (cur.set i t)
 | [],i,t=>by simp[dJ]
 |c::cur,0,t=>by simp[OD]
 |c::cur,i+1,t=>by
  rw[List.set_cons_succ,OD,OD,<-tG cur i t,show 2*(i+1)=2*i+1+1 by omega]
  simp
theorem jB.set(h:jB w e g cur)(i:Nat)(t:Tk):jB ((w.setCell ⟨g,2*i,none⟩ (.int .u8 t.1)).setCell ⟨g,2*i+1,none⟩ (.int .u8 t.2)) e g (cur.set i t):=by
 have h1:=heap_setCell_same w g (2*i) _ e (.int .u8 t.1) h;have h2:=heap_setCell_same _ g (2*i+1) _ e (.int .u8 t.2) h1;unfold jB;rw[h2];simp[<-tG]
theorem jB.tk(h:jB w e g cur)(hn:n<=cur.length)(hm:cur.length<=maxLen)(hok:∀t∈cur,t.1<256/\t.2<256):bG w (some ⟨g,0,none⟩) n cur.length (cur.take n):=by
 refine⟨by simp;omega,hn,hm,fun hn=>(nomatch hn),fun x hx k hk=>?_,fun x hx k hk=>?_,fun t ht=>hok t (List.mem_of_mem_take ht)⟩
 ·injection hx with hx;subst hx
  have hk2:k<cur.length:=by simp at hk;omega
  rw[qi,Nat.zero_add,h.c0 hk2];simp
 ·injection hx with hx;subst hx
  have hk2:k<cur.length:=by simp at hk;omega
  rw[qi,Nat.zero_add,h.c1 hk2];simp
def markT(i:Nat):Tk:=(2,200+i % 50)
def gU(ts:List Tk)(k:Nat):List Tk:=ts++((List.range k).map (fun j=>markT (ts.length+j))++List.replicate (3-k) (0,0))
def lF(ts:List Tk):List Tk:=ts++(List.range 3).map (fun j=>markT (ts.length+j))
theorem qe3(ts:List Tk)(h:k<=3):(gU ts k).length=ts.length+3:=by simp[gU];omega
theorem qe2(ts:List Tk):gU ts 3=lF ts:=by simp[gU,lF]
theorem KJ(ts:List Tk):(lF ts).length=ts.length+3:=by simp[lF]
theorem qeV(ts:List Tk):(lF ts).take ts.length=ts:=by simp[lF]
theorem qe4(ts:List Tk)(h:k<3):(gU ts k).set (ts.length+k) (markT (ts.length+k))=gU ts (k+1):=by
 unfold gU;obtain⟨d,hd⟩:∃d,3-k=d+1:=⟨3-k-1,by omega⟩
 have hd2:3-(k+1)=d:=by omega
 rw[hd,hd2,List.range_succ,List.replicate_succ,List.set_append_right _ _ (by simp)]
 congr 1
 rw[show ts.length+k-ts.length=k by omega,List.set_append_right _ _ (by simp),List.map_append]
 simp
theorem tL(hv:∀t∈ts,t.1<256/\t.2<256):∀t∈lF ts,t.1<256/\t.2<256:=by
 intro t ht;unfold lF at ht;rcases List.mem_append.1 ht with h|h
 ·exact hv t h
 ·obtain⟨j,_,rfl⟩:=List.mem_map.1 h;unfold markT;dsimp only;omega
theorem Sj(n:Nat):madeCells (Value.agg #[.int .u8 0,.int .u8 0]).cells (n*2)=(dJ (List.replicate n (0,0))).toArray:=by
 apply Array.ext_getElem?
 intro i;have e:(Value.agg #[.int .u8 0,.int .u8 0]).cells=#[.int .u8 0,.int .u8 0]:=rfl;rw[e];by_cases h:i<n*2
 ·have hl:∀i,i<n*2->(dJ (List.replicate n (0,0)))[i]? =some (.int .u8 0):=by
   intro i h;rcases Nat.mod_two_eq_zero_or_one i with h0|h0
   ·obtain⟨k,rfl⟩:∃k,i=2*k:=⟨i / 2,by omega⟩
    rw[(E5 _ k (by simp;omega)).1];simp
   ·obtain⟨k,rfl⟩:∃k,i=2*k+1:=⟨i / 2,by omega⟩
    rw[(E5 _ k (by simp;omega)).2];simp
  have hr:(dJ (List.replicate n (0,0))).toArray[i]? =some (.int .u8 0):=by simpa using hl i h
  rw[hr];rcases Nat.mod_two_eq_zero_or_one i with h0|h0<;>simp[madeCells,h,h0]
 ·have hr:(dJ (List.replicate n ((0:Nat),(0:Nat)))).toArray[i]? =none:=by
   rw[Array.getElem?_eq_none];rw[List.size_toArray,CP];simp;omega
  rw[hr,Array.getElem?_eq_none];simp[madeCells];omega
theorem qbi{P:Program}(w:World)(dT sT ty elem:TypeId)(g dLen dCap:Nat)(a:Addr)(sLen sCap:Nat)(cur:Array Value)(t:TypeId)(cs:List Value)
  (hu:P.underlying dT=some (.slice elem)) (hs:(P.info? elem).map (·.size)=some 2)
  (hg:w.heap[g]? =some (.cells cur t (0,0))) (hn:Nat.min sLen dLen=sLen) (hl:cs.length=sLen*2)
  (hsrc:∀j v,cs[j]? =some v->w.cell? (a.add j)=some v) (hfit:cs.length<=cur.size) (h1:∀v∈cs,v.oneCell'=true):
  (Builtin.copy_ #[dT,sT] ty #[.slice (some ⟨g,0,none⟩) dLen dCap,.slice (some a) sLen sCap]).run P w =
   .ok (goInt sLen) (w.setRow g (cs++cur.toList.drop cs.length).toArray):=by
 have hld:=run_loadCells_list (P:=P) w a cs hsrc;have hst:=run_storeCells_at P g 0 t cs 0 cur w hg (by simpa using hfit) h1
 cases hq:P.info? elem with
 |none=>simp[hq]at hs
 |some i=>
  have hi:i.size=2:=by simpa [hq] using hs
  have hn':min sLen dLen=sLen:=hn;simp[Builtin.copy_,run_underlying hu,Builtin.lenOf,Builtin.firstCells,sizeOf,typeInfo,hq,hi,hn',<-hl,hld,hst]
theorem qa0(w:World)(dT sT ty elem:TypeId)(d a:Option Addr)(dLen dCap sCap:Nat)(hu:P.underlying dT=some (.slice elem))(hs:(P.info? elem).map (·.size)=some 2):
  (Builtin.copy_ #[dT,sT] ty #[.slice d dLen dCap,.slice a 0 sCap]).run P w=.ok (goInt 0) w:=by
 cases hq:P.info? elem with
 |none=>simp[hq]at hs
 |some i=>
  have hmin:Nat.min 0 dLen=0:=Nat.zero_min _
  cases d<;>cases a<;>simp[Builtin.copy_,run_underlying hu,Builtin.lenOf,Builtin.firstCells,sizeOf,typeInfo,hq,hmin,loadCells,loadCellsFrom,storeCells]
theorem qbr(a:Option Addr)(len cap:Nat)(ts:List Tk)(w:World)(hS:bG w a len cap ts):
  ∃w2,(∀ty,(Builtin.copy_ #[22,22] ty #[.slice (some ⟨w.heap.size,0,none⟩) (len+3) (len+3),.slice a len cap]).run prog (w.alloc (.cells (dJ (List.replicate (len+3) (0,0))).toArray 42))=.ok (goInt len) w2) /\
   jB w2 42 w.heap.size (gU ts 0)/\Below w.heap.size w w2:=by
 by_cases h0:len=0
 ·subst h0
  have hnil:ts=[]:=List.eq_nil_of_length_eq_zero hS.hlen;subst hnil;exact⟨_,fun ty=>qa0 _ _ _ ty 42 _ _ _ _ _ underlying22 qD,(dO w _).1,(Below.refl _ _).alloc bZ _⟩
 ·cases a with
  |none=>have h1:=hS.nn rfl;have h2:=hS.hcap;exact absurd h1 (by omega)
  |some x=>
   have hlm:(dJ ts).length=len*2:=by rw[CP,hS.hlen]
   have hrl:(dJ (List.replicate (len+3) ((0:Nat),(0:Nat)))).length=(len+3)*2:=by rw[CP];simp
   have hrun:=fun ty=>qbi (P:=prog) (w.alloc (.cells (dJ (List.replicate (len+3) (0,0))).toArray 42)) 22 22 ty 42 w.heap.size (len+3) (len+3) x len cap _ 42 (dJ ts) underlying22 qD (dO w _).1
    (Nat.min_eq_left (by omega)) hlm (fun j v hj=>qf (hS.cells j v hj) (qd w _)) (by rw[hlm,List.size_toArray,hrl];omega) (fX ts)
   refine⟨_,hrun,?_,?_⟩
   ·unfold jB
    rw[setRow_heap _ _ _ _ _ _ (dO w _).1]
    congr 3
    have e1:List.replicate (len+3) ((0:Nat),(0:Nat))=List.replicate len (0,0)++List.replicate 3 (0,0):=by rw[List.replicate_append_replicate]
    have e2:(dJ (List.replicate len ((0:Nat),(0:Nat)))).length=(dJ ts).length:=by rw[CP,hlm];simp
    show (dJ ts++(dJ (List.replicate (len+3) (0,0))).toArray.toList.drop (dJ ts).length)=dJ (gU ts 0)
    have e3:(dJ (List.replicate (len+3) ((0:Nat),(0:Nat)))).toArray.toList=dJ (List.replicate (len+3) (0,0)):=rfl;rw[e3,e1,WM,<-e2,List.drop_left,<-WM];simp[gU]
   ·exact Wq ((Below.refl _ _).alloc bZ _) bZ _
theorem qbM(l:Nat)(L:Int)(hl:L=l)(hb:l<=1000000)(w:World):
  (Instr.makeSlice 22 (.int .i64 L) (.int .i64 L)).run prog w=.ok (.slice (some ⟨w.heap.size,0,none⟩) l l) (w.alloc (.cells (dJ (List.replicate l (0,0))).toArray 42)):=by
 obtain⟨i,hi,hz0,hz1,hz2⟩:=info_parts fY;have:=run_make (P:=prog) w 22 42 i (.agg #[.int .u8 0,.int .u8 0]) underlying22 hi hz0 .i64 .i64 L L (by omega) (by omega) (by rw[hz2];omega) (by omega)
 rw[this,hl,hz1,<-Sj];simp only[Int.toNat_natCast]
theorem tM(a:Option Addr)(len cap:Nat)(ts:List Tk)(w:World)(hS:bG w a len cap ts)(h20:len<=100000):
  Calls prog 5 #[.slice a len cap] w fun e w'=>e=.returned (.slice (some ⟨w.heap.size,0,none⟩) len (len+3))/\jB w' 42 w.heap.size (lF ts)/\Below w.heap.size w w':=by
 obtain⟨w2,hcp,hrow,hb⟩:=qbr a len cap ts w hS;have HL:Hid (ts.length=len):=hS.hlen;have hmk:=fun w=>qbM (len+3) ((len:Int)+3) (by omega) (by omega) w
 go_enter func5,ntmps5
 go_wp2;clear hmk hcp;have hidx:∀(k:Nat)(w':World),k<len+3->(Instr.indexAt 22 (.slice (some ⟨w.heap.size,0,none⟩) (len+3) (len+3)) (.int .i64 k)).run prog w'=.ok (.pointer (some ⟨w.heap.size,2*k,none⟩)) w':=fun k w' h=>CN underlying22 qD k w' h
 go_loopw [4] (fun i wr=>∃k:Nat,len<=k/\k<=len+3/\i=.int .i64 k/\jB wr 42 w.heap.size (gU ts (k-len))/\Below w.heap.size w wr) (fun i _=>len+3-(intOf i).toNat)
 case atStart=>exact⟨len,bZ,by omega,rfl,by rw[Nat.sub_self];exact hrow,hb⟩
 case round=>
  obtain⟨k,hk0,hk,rfl,hr,hnx⟩:=hrel;by_cases hlt:k<len+3
  ·have hkl:k<(gU ts (k-len)).length:=by rw[qe3 _ (by omega),HL.out];omega
   have hc0:=hr.c0 hkl;have hc1:=hr.c1 hkl;have hf0:=hr.frozen (2*k);have hf1:=hr.frozen (2*k+1);have hi:=fun w'=>hidx k w' hlt
   have R1:jB ((wr.setCell ⟨w.heap.size,2*k,none⟩ (.int .u8 2)).setCell ⟨w.heap.size,2*k+1,none⟩ (.int .u8 (200+((k % 50:Nat):Int)))) 42 w.heap.size (gU ts (k+1-len)):=by
    have:=hr.set k (markT k)
    have e:ts.length+(k-len)=k:=by rw[HL.out];omega
    have h2:=qe4 ts (k:=k-len) (by omega)
    rw[e]at h2;rw[h2,show k-len+1=k+1-len by omega]at this
    exact this
   have R2:Below w.heap.size w ((wr.setCell ⟨w.heap.size,2*k,none⟩ (.int .u8 2)).setCell ⟨w.heap.size,2*k+1,none⟩ (.int .u8 (200+((k % 50:Nat):Int)))):=(hnx.setCell bZ _).setCell bZ _;clear hr hnx hidx;go_wp2
   go_roundw
   case rel=>exact⟨k+1,by omega,by omega,by go_num,R1,R2⟩
   case measure=>simp[intOf];omega
  ·obtain rfl:k=len+3:=by omega
   go_wp2;go_ret
   exact⟨rfl,by rw[show len+3-len=3 by omega,qe2]at hr;exact hr,hnx⟩
theorem tP(hR:jB w e g (lF ts))(hl:ts.length=len)(h:len<=100000)(hok:∀t∈ts,t.1<256/\t.2<256):bG w (some ⟨g,0,none⟩) (len+3) (len+3) (lF ts):=by
 have:=hR.tk (n:=len+3) (by rw[KJ];omega) (by rw[KJ];unfold maxLen;omega) (tL hok)
 rw[List.take_of_length_le (by rw[KJ];omega),KJ,hl]at this
 exact this
theorem qeU(hR:jB w e g (lF ts))(hl:ts.length=len)(h:len<=100000)(hok:∀t∈ts,t.1<256/\t.2<256):bG w (some ⟨g,0,none⟩) len (len+3) ts:=by
 subst hl;have:=hR.tk (n:=ts.length) (by rw[KJ];omega) (by rw[KJ];unfold maxLen;omega) (tL hok)
 rw[qeV,KJ]at this;exact this
theorem q95(g len:Nat)(a:Option Addr)(cap:Nat)(ts:List Tk)(w:World)(hR:jB w 42 g (lF ts))(hS:bG w a len cap ts)(h20:len<=100000):
  Calls prog 11 #[.slice (some ⟨g,0,none⟩) len (len+3),.slice a len cap] w fun e w'=>e=.returned (.bool true)/\Below w.heap.size w w':=by
 have hd:Below w.heap.size w w.drew:=(Below.refl _ _).drew;have hle:=tM a len cap ts w.drew (hS.up hd) h20
 have hsm:∀w1,jB w1 42 w.drew.heap.size (lF ts)->Below w.drew.heap.size w.drew w1->Calls prog 21 #[.slice (some ⟨g,0,none⟩) (len+3) (len+3),.slice (some ⟨w.drew.heap.size,0,none⟩) (len+3) (len+3)] w1 fun e w'=>e=.returned (.bool true)/\Below w1.heap.size w1 w':=fun w1 h1 h2=>
  (NF _ _ _ _ _ _ _ _ w1 (tP ((hR.up hd).up h2) hS.hlen h20 hS.ok) (tP h1 hS.hlen h20 hS.ok)).mono fun e w' ⟨he,hn⟩=>⟨by rw[he];simp,hn⟩
 clear hR hS;obtain⟨C,hC⟩:∃C:Nat,C=len+3:=⟨_,rfl⟩
 have hsum:IntKind.i64.wrap ((len:Int)+3)=(C:Int):=by rw[hC,IntKind.wrap_i64];omega
 have hC0:(0:Int)<=(C:Int):=by omega
 have Md:(C:Int)<=(C:Int):=by omega
 have hC2:(C:Int)<=9223372036854775807:=by omega
 have hC3:(len:Int)<=(C:Int):=by omega
 rw[<-hC]at hle hsm ⊢;clear hC hd;go_enter func11,ntmps11
 go_wp2
 go_region_held3 (fun _=>True) (trivial) (first|(go_at_call 5;refine hle.mono ?_;rintro e w1 ⟨rfl,h1,h2⟩;have hs1:=hsm w1 h1 h2)|(go_at_call 21;refine hs1.mono ?_;rintro e w3 ⟨rfl,h3⟩))
 go_wp2;go_ret
 have hd:Below w.heap.size w w.drew:=(Below.refl _ _).drew;exact⟨rfl,hd.trans (h2.trans (h3.mono h2.size))⟩
theorem Vf:(prog.info? 43).map (·.size)=some 1:=by kernel_rfl
theorem qaA:(prog.info? 43).map (fun i=>(i.zero,i.size,i.bytes))=some (some (.int .u8 0),1,1):=by kernel_rfl
theorem q8p(a:Option Addr)(len cap:Nat)(xs:List Int)(a':Option Addr)(len' cap':Nat)(ys:List Int)(w:World)
  (hS:dh prog 23 .u8 w a len cap xs) (hO:dh prog 23 .u8 w a' len' cap' ys):
  Calls prog 22 #[.slice a len cap,.slice a' len' cap'] w fun e w'=>e=.returned (.bool (decide (xs=ys)))/\∃n,w'=w.drewN n:=by
 have hb0:=hS.bd;have hb1:=hS.hcap;have hb2:=hO.bd;have hb3:=hO.hcap;unfold maxLen at hb0 hb2;by_cases hll:len=len'
 ·subst hll
  have hidx:=fun (k:Nat) (w:World) (h:k<len)=>hS.idx len k w h bZ
  have hidx':=fun (k:Nat) (w:World) (h:k<len)=>hO.idx len k w h bZ
  go_enter func22,ntmps22
  go_wp2
  go_loopw [5] (fun i wr=>∃k:Nat,k<=len/\i=.int .i64 k/\Hid (xs.take k=ys.take k)/\Hid (∃n,wr=w.drewN n)) (fun i _=>len-(intOf i).toNat)
  case atStart=>exact⟨0,Nat.zero_le _,rfl,by show _=_;simp,0,rfl⟩
  case round=>
   obtain⟨k,hk,rfl,HU,hwr⟩:=hrel;by_cases hlt:k<len
   ·have hS':dh prog 23 .u8 wr a len cap xs:=by obtain⟨n,hn⟩:=hwr.out;rw[hn];exact hS.drewN n
    have Sl:dh prog 23 .u8 wr a' len cap' ys:=by obtain⟨n,hn⟩:=hwr.out;rw[hn];exact hO.drewN n
    have hck:=hS'.cell k hlt;have FX:=Sl.cell k hlt;have HN:Hid (xs.getD k 0=ys.getD k 0->xs.take (k+1)=ys.take (k+1)):=fun h=>fL (by rw[hS.hlen];exact hlt) (by rw[hO.hlen];exact hlt) HU.out h
    have HM:Hid (xs.getD k 0≠ys.getD k 0->decide (xs=ys)=false):=fun h=>decide_eq_false (fun e=>h (by rw[e]))
    clear hS' Sl;generalize xs.getD k 0=x at *;generalize ys.getD k 0=y at *;go_wp2
    go_quiet (fail)
    rcases Bool.eq_false_or_eq_true (x != y) with ht|ht
    ·go_wp2
     go_ret
     obtain⟨n,hn⟩:=hwr.out;exact⟨by rw[HM.out (by simpa using ht)];rfl,n+nq,by rw[hn,World.drewN_drewN]⟩
    ·have BG:Hid _:=HN.out (by simpa using ht)
     go_wp2
     go_roundw
     case rel=>
      obtain⟨n,hn⟩:=hwr.out;exact⟨k+1,by omega,by go_num,BG,n+nq,by rw[hn,World.drewN_drewN]⟩
     case measure=>simp[intOf];omega
   ·have hx:Hid (decide (xs=ys)=true):=by
     have:=HU.out
     rw[List.take_of_length_le (by rw[hS.hlen];omega),List.take_of_length_le (by rw[hO.hlen];omega)]at this
     exact decide_eq_true this
    go_wp2;go_ret
    exact⟨by rw[hx.out];rfl,hwr.out⟩
 ·have hx:Hid (decide (xs=ys)=false):=decide_eq_false (fun e=>hll (by rw[<-hS.hlen,<-hO.hlen,e]))
  have Jk:((len:Int) != (len':Int))=true:=by simp;omega
  clear hll;go_enter func22,ntmps22
  go_wp2;go_ret
  exact⟨by rw[hx.out];rfl,0,rfl⟩
def tY(i:Nat):Int:=200+((i % 50:Nat):Int)
def kQ(zs:List Int)(k:Nat):List Int:=zs++((List.range k).map (fun j=>tY (zs.length+j))++List.replicate (3-k) 0)
def l7(zs:List Int):List Int:=zs++(List.range 3).map (fun j=>tY (zs.length+j))
theorem qeX(zs:List Int)(h:k<=3):(kQ zs k).length=zs.length+3:=by simp[kQ];omega
theorem qeW(zs:List Int):kQ zs 3=l7 zs:=by simp[kQ,l7]
theorem KL(zs:List Int):(l7 zs).length=zs.length+3:=by simp[l7]
theorem qeT(zs:List Int):(l7 zs).take zs.length=zs:=by simp[l7]
theorem qeY(zs:List Int)(h:k<3):(kQ zs k).set (zs.length+k) (tY (zs.length+k))=kQ zs (k+1):=by
 unfold kQ;obtain⟨d,hd⟩:∃d,3-k=d+1:=⟨3-k-1,by omega⟩
 have hd2:3-(k+1)=d:=by omega
 rw[hd,hd2,List.range_succ,List.replicate_succ,List.set_append_right _ _ (by simp)]
 congr 1
 rw[show zs.length+k-zs.length=k by omega,List.set_append_right _ _ (by simp),List.map_append]
 simp
theorem qbq(a:Option Addr)(len cap:Nat)(zs:List Int)(w:World)(hS:dh prog 23 .u8 w a len cap zs):
  ∃w2,(∀ty,(Builtin.copy_ #[23,23] ty #[.slice (some ⟨w.heap.size,0,none⟩) (len+3) (len+3),.slice a len cap]).run prog (w.alloc (.cells (pG (List.replicate (len+3) 0)) 43))=.ok (goInt len) w2) /\
   fV w2 43 w.heap.size (kQ zs 0)/\Below w.heap.size w w2:=by
 by_cases h0:len=0
 ·subst h0
  have hnil:zs=[]:=List.eq_nil_of_length_eq_zero hS.hlen;subst hnil;exact⟨_,fun ty=>run_copy_none _ _ _ ty 43 _ _ _ _ _ _ underlying23 Vf (by simp),(MapKept.heap_alloc w _).1,(Below.refl _ _).alloc (Nat.le_refl _) _⟩
 ·cases a with
  |none=>have h1:=hS.nn rfl;have h2:=hS.hcap;exact absurd h1 (by omega)
  |some x=>
   have hlm:(zs.map (Value.int .u8)).length=len:=by rw[List.length_map,hS.hlen]
   have hrun:=fun ty=>run_copy_row (P:=prog) (w.alloc (.cells (pG (List.replicate (len+3) 0)) 43)) 23 23 ty 43 w.heap.size 0 (len+3) (len+3) x len cap _ 43 (zs.map (Value.int .u8)) underlying23 Vf (dO w _).1
    (by rw[hlm];simp) (fun j v hj=>by
     have hjl:j<len:=by rw[<-hlm];exact(List.getElem?_eq_some_iff.1 hj).1
     have hc:=hS.cell j hjl
     have e:v=.int .u8 (zs.getD j 0):=by
      rw[List.getElem?_map,kU (by rw[hS.hlen];exact hjl)]at hj
      simp[List.getD_eq_getElem?_getD,List.getElem?_eq_getElem (show j<zs.length by rw[hS.hlen];exact hjl)]
      simpa using hj.symm
     have hc2:w.cell? (x.add j)=some v:=by rw[e];exact hc
     exact cell_later ((Below.refl _ _).alloc (Nat.le_refl _) _) hc2) (by rw[hlm];simp[pG]) (by
     intro v hv;obtain⟨s,_,rfl⟩:=List.mem_map.1 hv;rfl)
   rw[hlm]at hrun;refine⟨_,hrun,?_,?_⟩
   ·unfold fV
    rw[setRow_heap _ _ _ _ _ _ (dO w _).1]
    congr 2
    apply Array.ext'
    simp[pG,kQ,hS.hlen]
   ·exact Wq ((Below.refl _ _).alloc bZ _) bZ _
theorem qaH(l c:Nat)(L C:Int)(hl:L=l)(hc:C=c)(hlc:l<=c)(hb:c<=140737488355328)(w:World):
  (Instr.makeSlice 23 (.int .i64 L) (.int .i64 C)).run prog w=.ok (.slice (some ⟨w.heap.size,0,none⟩) l c) (w.alloc (.cells (pG (List.replicate c 0)) 43)):=by
 obtain⟨i,hi,hz0,hz1,hz2⟩:=info_parts qaA;have:=run_make (P:=prog) w 23 43 i (.int .u8 0) underlying23 hi hz0 .i64 .i64 L C (by omega) (by omega) (by rw[hz2];omega) (by omega)
 rw[this,hl,hc,hz1];simp only[Int.toNat_natCast,Nat.mul_one]
 have e:(Value.int .u8 0).cells=#[.int .u8 0]:=rfl;rw[e,OA]
theorem tW(a:Option Addr)(len cap:Nat)(zs:List Int)(w:World)(hS:dh prog 23 .u8 w a len cap zs)(h20:len<=140737488351232):
  Calls prog 6 #[.slice a len cap] w fun e w'=>e=.returned (.slice (some ⟨w.heap.size,0,none⟩) len (len+3))/\fV w' 43 w.heap.size (l7 zs)/\Below w.heap.size w w':=by
 obtain⟨w2,hcp,hrow,hb⟩:=qbq a len cap zs w hS;have HL:Hid (zs.length=len):=hS.hlen;have hmk:=fun w=>qaH (len+3) (len+3) ((len:Int)+3) ((len:Int)+3) (by omega) (by omega) (by omega) (by omega) w
 go_enter func6,ntmps6
 go_wp2;clear hmk hcp
 go_loopw [4] (fun i wr=>∃k:Nat,len<=k/\k<=len+3/\i=.int .i64 k/\fV wr 43 w.heap.size (kQ zs (k-len))/\Below w.heap.size w wr) (fun i _=>len+3-(intOf i).toNat)
 case atStart=>exact⟨len,bZ,by omega,rfl,by rw[Nat.sub_self];exact hrow,hb⟩
 case round=>
  obtain⟨k,hk0,hk,rfl,hr,hnx⟩:=hrel;by_cases hlt:k<len+3
  ·have hc1:=hr.cell (i:=k) (by rw[qeX _ (by omega),HL.out];omega)
   have hf1:=hr.frozen k
   have R1:fV (wr.setCell ⟨w.heap.size,k,none⟩ (.int .u8 (tY k))) 43 w.heap.size (kQ zs (k+1-len)):=by
    have:=hr.set k (tY k)
    have e:zs.length+(k-len)=k:=by rw[HL.out];omega
    have h2:=qeY zs (k:=k-len) (by omega)
    rw[e]at h2;rw[h2,show k-len+1=k+1-len by omega]at this
    exact this
   have R2:Below w.heap.size w (wr.setCell ⟨w.heap.size,k,none⟩ (.int .u8 (tY k))):=hnx.setCell bZ _;clear hr hnx;unfold tY at R1 R2;go_wp2
   go_roundw
   case rel=>exact⟨k+1,by omega,by omega,by go_num,R1,R2⟩
   case measure=>simp[intOf];omega
  ·obtain rfl:k=len+3:=by omega
   go_wp2;go_ret
   exact⟨rfl,by rw[show len+3-len=3 by omega,qeW]at hr;exact hr,hnx⟩
theorem t8(hR:fV w 43 g (l7 zs))(hl:zs.length=len)(h:len<=140737488351232):dh prog 23 .u8 w (some ⟨g,0,none⟩) (len+3) (len+3) (l7 zs):=by
 have:=hR.lq (P:=prog) (T:=23) (n:=len+3) underlying23 Vf (by rw[KL];omega) (by rw[KL];unfold maxLen;omega)
 rw[List.take_of_length_le (by rw[KL];omega),KL,hl]at this
 exact this
theorem q89(hR:fV w 43 g (l7 zs))(hl:zs.length=len)(h:len<=140737488351232):dh prog 23 .u8 w (some ⟨g,0,none⟩) len (len+3) zs:=by
 subst hl;have:=hR.lq (P:=prog) (T:=23) (n:=zs.length) underlying23 Vf (by rw[KL];omega) (by rw[KL];unfold maxLen;omega)
 rw[qeT,KL]at this;exact this
theorem q94(g len:Nat)(a:Option Addr)(cap:Nat)(zs:List Int)(w:World)(hR:fV w 43 g (l7 zs))(hS:dh prog 23 .u8 w a len cap zs)(h20:len<=140737488351232):
  Calls prog 12 #[.slice (some ⟨g,0,none⟩) len (len+3),.slice a len cap] w fun e w'=>e=.returned (.bool true)/\Below w.heap.size w w':=by
 have hd:Below w.heap.size w w.drew:=(Below.refl _ _).drew;have hle:=tW a len cap zs w.drew (hS.up hd) h20
 have hsm:∀w1,fV w1 43 w.drew.heap.size (l7 zs)->Below w.drew.heap.size w.drew w1->Calls prog 22 #[.slice (some ⟨g,0,none⟩) (len+3) (len+3),.slice (some ⟨w.drew.heap.size,0,none⟩) (len+3) (len+3)] w1 fun e w'=>e=.returned (.bool true)/\Below w1.heap.size w1 w':=fun w1 h1 h2=>
  (q8p _ _ _ _ _ _ _ _ w1 (t8 ((hR.up hd).up h2) hS.hlen h20) (t8 h1 hS.hlen h20)).mono fun e w' ⟨he,hn⟩=>⟨by rw[he];simp,WL hn⟩
 clear hR hS;obtain⟨C,hC⟩:∃C:Nat,C=len+3:=⟨_,rfl⟩
 have hsum:IntKind.i64.wrap ((len:Int)+3)=(C:Int):=by rw[hC,IntWalk.i64_left,IntWalk.wrap64_in _ (by omega)];omega
 have hC0:(0:Int)<=(C:Int):=by omega
 have Md:(C:Int)<=(C:Int):=by omega
 have hC2:(C:Int)<=9223372036854775807:=by omega
 have hC3:(len:Int)<=(C:Int):=by omega
 rw[<-hC]at hle hsm ⊢;clear hC hd;go_enter func12,ntmps12
 go_wp2
 go_region_held3 (fun _=>True) (trivial) (first|(go_at_call 6;refine hle.mono ?_;rintro e w1 ⟨rfl,h1,h2⟩;have hs1:=hsm w1 h1 h2)|(go_at_call 22;refine hs1.mono ?_;rintro e w3 ⟨rfl,h3⟩))
 go_wp2;go_ret
 have hd:Below w.heap.size w w.drew:=(Below.refl _ _).drew;exact⟨rfl,hd.trans (h2.trans (h3.mono h2.size))⟩
end Go.Proofs.YtoioiellaomonaaGreatDoor
