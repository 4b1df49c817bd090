import Derived.Laws.Bits64b
import Derived.Deep.RegionLaw
import Derived.Test.YtoioiellaomonaaGreatDoorZ02
import Derived.Test.YtoioiellaomonaaGreatDoorZ03
import Derived.Test.YtoioiellaomonaaGreatDoorZ04
import Derived.Test.YtoioiellaomonaaGreatDoorZ08
import Derived.Test.YtoioiellaomonaaGreatDoorZ11
import Derived.Test.YtoioiellaomonaaGreatDoorZ12
import Derived.Test.YtoioiellaomonaaGreatDoorZ13
import Derived.Test.YtoioiellaomonaaGreatDoorZ15
set_option maxRecDepth 100000
set_option maxHeartbeats 16000000
namespace Go.Proofs.YtoioiellaomonaaGreatDoor
open Go.RowKit Go.Maps Proofs.Tryz
variable {a:Option Addr}{b n p i c er:Nat}{M:Mt}{g:List Tk}{w w':World}{T e:TypeId}{rest rows:List Value}{aj:List It}{T0:Tr}{G F F':Nat->Prop}{met l:List Nat}{vm vs vb:Value}{P:Program}
def gK:List PanicEntry:=[{ v:=.iface 126 (.int .i64 9),recovered:=false }]
def Gh(r:Option (List Nat))(w:World)(e:Ending)(w':World):Prop:=Below w.heap.size w w'/\((∃L q d,r=some L/\e=.returned (.slice q L.length d)/\fH w' q L.length d L/\(∀k,k<L.length->w.heap.size<=(aG q k).block)/\zo w' q L.length)\/(r=none/\e=.panicked gK))
theorem pA(a:Option Addr)(n c:Nat)(w:World):Calls prog 99 #[.slice a n c,.int .i64 0] w fun e w'=>e=.returned (.slice a n c)/\w'=w:=by
 go_enter func99,ntmps99
 go_wp2;go_ret
 exact⟨rfl,rfl⟩
theorem pB(a:Option Addr)(n c:Nat)(w:World):Calls prog 99 #[.slice a n c,.int .i64 9] w fun e w'=>e=.panicked gK/\w'=w:=by
 go_enter func99,ntmps99
 go_wp2;exact⟨rfl,rfl,rfl⟩
theorem pC(a:Option Addr)(n c:Nat)(l:List Nat)(b:Option Addr)(m d:Nat)(k:List Nat)(w:World)(hA:fH w a n c l)(hB:fH w b m d k)(sL:Sm l)(sK:Sm k)(hn:n<=2000)(hm:m<=2000):
  Calls prog 76 #[.slice a n c,.slice b m d] w (Gh (andM l k) w):=by
 have hl:=hA.len;have hk:=hB.len;by_cases h:n*m<=1024
 ·have hs:andM l k=some (aJ (dI l k)):=by unfold andM;rw[if_pos (by rw[<-hl,<-hk];exact h)]
  have jj:=XS a n c l b m d k w hA hB sL sK h hn hm;rw[hs];clear hs hA hB hl hk h;generalize aJ (dI l k)=r at *;go_enter func76,ntmps76
  go_wp2_with fail
  refine jj.mono ?_
  rintro e w1 ⟨q,C,rfl,hU,hb,hf⟩
  have HU:Hid _:=hU;have HB:Hid _:=hb;have AP:Hid _:=hf;clear jj hU hb hf
  go_wp2_with fail
  refine (pA _ _ _ _).mono ?_
  rintro e w2 ⟨rfl,rfl⟩
  go_wp2;go_ret
  exact⟨HB.out,Or.inl ⟨r,q,C,rfl,rfl,HU.out,AP.out⟩⟩
 ·have hs:andM l k=none:=by unfold andM;rw[if_neg (by rw[<-hl,<-hk];exact h)]
  have jj:=Ys a n c b m d w hn hm (by omega)
  rw[hs];clear hs hA hB hl hk h;go_enter func76,ntmps76
  go_wp2_with fail
  refine jj.mono ?_
  rintro e w1 ⟨q,C,rfl,hU,hb⟩
  have HB:Hid _:=hb;clear jj hU hb
  go_wp2_with fail
  refine (pB _ _ _ _).mono ?_
  rintro e w2 ⟨rfl,rfl⟩
  exact⟨rfl,HB.out,Or.inr ⟨rfl,rfl⟩⟩
theorem pD(a:Option Addr)(n c:Nat)(l:List Nat)(b:Option Addr)(m d:Nat)(k:List Nat)(w:World)(hA:fH w a n c l)(hB:fH w b m d k)(sL:Sm l)(sK:Sm k)(hn:n<=2000)(hm:m<=2000):
  Calls prog 77 #[.slice a n c,.slice b m d] w (Gh (orM l k) w):=by
 have hl:=hA.len;have hk:=hB.len;by_cases h:n+m<=1024
 ·have hs:orM l k=some (aJ (l++k)):=by unfold orM;rw[if_pos (by rw[<-hl,<-hk];exact h)]
  have jj:=W7 a n c l b m d k w hA hB sL sK h;rw[hs];clear hs hA hB hl hk h;generalize aJ (l++k)=r at *;go_enter func77,ntmps77
  go_wp2_with fail
  refine jj.mono ?_
  rintro e w1 ⟨q,C,rfl,hU,hb,hf⟩
  have HU:Hid _:=hU;have HB:Hid _:=hb;have AP:Hid _:=hf;clear jj hU hb hf
  go_wp2_with fail
  refine (pA _ _ _ _).mono ?_
  rintro e w2 ⟨rfl,rfl⟩
  go_wp2;go_ret
  exact⟨HB.out,Or.inl ⟨r,q,C,rfl,rfl,HU.out,AP.out⟩⟩
 ·have hs:orM l k=none:=by unfold orM;rw[if_neg (by rw[<-hl,<-hk];exact h)]
  have jj:=W8 a n c b m d w (by omega) (by omega) (by omega)
  rw[hs];clear hs hA hB hl hk h;go_enter func77,ntmps77
  go_wp2_with fail
  refine jj.mono ?_
  rintro e w1 ⟨q,C,rfl,hU,hb⟩
  have HB:Hid _:=hb;clear jj hU hb
  go_wp2_with fail
  refine (pB _ _ _ _).mono ?_
  rintro e w2 ⟨rfl,rfl⟩
  exact⟨rfl,HB.out,Or.inr ⟨rfl,rfl⟩⟩
def rJ(l:List Nat)(w:World)(e:Ending)(w':World):Prop:=∃q C,e=.returned (.slice q l.length C)/\fH w' q l.length C l/\Below w.heap.size w w'/\∀k,k<l.length->w.heap.size<=(aG q k).block
theorem QG(w w':World)(h:Below w.heap.size w w'):rJ [] w (.returned (.slice none 0 0)) w':=⟨none,0,rfl,Et,h,fun k hk=>absurd hk (by simp)⟩
theorem pE(b:Bool)(w:World):Calls prog 125 #[.bool b] w (rJ (bU b) w):=by
 cases b with
 |true=>
  have jj:=P6 w;go_enter func125,ntmps125
  go_wp2_with fail
  refine jj.mono ?_
  rintro e w1 ⟨q,C,rfl,hU,hb,hf⟩
  have HU:Hid (rJ (bU true) w (.returned (.slice q [0].length C)) w1):=⟨q,C,rfl,hU,hb,hf⟩;clear jj hU hb hf;go_wp2;go_ret
  exact HU.out
 |false=>
  go_enter func125,ntmps125
  go_wp2;go_ret
  exact QG w w (Below.refl _ _)
theorem qgm:∀x:Fin 256,∀q:Fin 8,(bits BinOp.and IntKind.u8 ((x.val:Nat):Int) ((2 ^ q.val:Nat):Int) != 0)=x.val.testBit q.val:=by decide +kernel
def iM(p x bn bl:Nat):Value:=.agg #[.pointer (some ⟨p,0,none⟩),.int .u8 x,.map (some bn),.map (some bl)]
def cu(p x bn bl:Nat):Obj:=.cells #[.pointer (some ⟨p,0,none⟩),.int .u8 x,.map (some bn),.map (some bl)] 100 (0,0)
theorem pH(p x bn bl q:Nat)(hx:x<256)(hq:q<=7)(w:World):Calls prog 126 #[iM p x bn bl,.int .u8 q] w fun e w'=>e=.returned (.bool (x.testBit q))/\Below w.heap.size w w':=by
 have HB:=qd w (cu p x bn bl);unfold iM;unfold cu at HB;have:q=0\/q=1\/q=2\/q=3\/q=4\/q=5\/q=6\/q=7:=by omega
 have hh:=qgm ⟨x,hx⟩ ⟨q,by omega⟩
 dsimp only at hh
 rcases this with rfl|rfl|rfl|rfl|rfl|rfl|rfl|rfl <;>
 ·have HH:Hid _:=hh
  clear hh;go_enter func126,ntmps126
  go_wp2;go_ret
  exact⟨congrArg Ending.returned (congrArg Value.bool HH.out),HB⟩
def kM(f:List Tk):ByteArray:=⟨(f.map fun k=>UInt8.ofNat (k.1*8+k.2)).toArray⟩
def BP(f:List Tk):Prop:=∀k∈f,k.1<=23/\k.2<=7
theorem qgc{a b:Tk}(ha:a.1<=23/\a.2<=7)(hb:b.1<=23/\b.2<=7)(h:UInt8.ofNat (a.1*8+a.2)=UInt8.ofNat (b.1*8+b.2)):a=b:=by
 have:=congrArg UInt8.toNat h
 simp at this
 obtain⟨a1,a2⟩:=a;obtain⟨b1,b2⟩:=b;simp only[Prod.mk.injEq]
 dsimp only at *
 omega
theorem qh1:∀{f g:List Tk},BP f->BP g->kM f=kM g->f=g:=by
 intro f g hf hg h
 have h1:(f.map fun k=>UInt8.ofNat (k.1*8+k.2))=g.map fun k=>UInt8.ofNat (k.1*8+k.2):=by
  have:=congrArg (fun x:ByteArray=>x.data.toList) h
  simpa [kM] using this
 clear h
 induction f generalizing g with
 |nil=>cases g with
  |nil=>rfl
  |cons y g=>simp at h1
 |cons x f ih=>cases g with
  |nil=>simp at h1
  |cons y g=>
   rw[List.map_cons,List.map_cons]at h1;injection h1 with e1 e2;rw[qgc (hf x (by simp)) (hg y (by simp)) e1,ih (fun k hk=>hf k (by simp[hk])) (fun k hk=>hg k (by simp[hk])) e2]
def wZ(M:Mt)(s:ByteArray):Option Nat:=M.findIdx? fun f=>decide (kM f=s)
theorem pL{p q:List Tk->Bool}:∀{M:Mt},(∀f∈M,p f=q f)->M.findIdx? p=M.findIdx? q
 | [],_=>rfl
 |f::M,h=>by
  rw[List.findIdx?_cons,List.findIdx?_cons,h f (by simp),pL fun g hg=>h g (by simp[hg])]
theorem YS(hM:∀f∈M,BP f)(hg:BP g):wZ M (kM g)=M.findIdx? (· == g):=by
 refine pL fun f hf=>?_
 by_cases e:f=g
 ·subst e;simp
 ·have:¬kM f=kM g:=fun h=>e (qh1 (hM f hf) hg h)
  simp[e,this]
theorem qgC(hM:∀f∈M,BP f)(hg:BP g)(hn:M.findIdx? (· == g)=none)(y:ByteArray):(if y=kM g then some M.length else wZ M y)=wZ (M++[g]) y:=by
 by_cases e:y=kM g
 ·subst e
  rw[if_pos rfl];unfold wZ;rw[List.findIdx?_append,show M.findIdx? (fun f=>decide (kM f=kM g))=none from (YS hM hg).trans hn];simp
 ·rw[if_neg e]
  unfold wZ;rw[List.findIdx?_append];have:¬kM g=y:=fun h=>e h.symm
  simp[this]
theorem jM.oQ{mp j:Nat}{vi vt:Value}{aS:List ByteArray}{f:It->Option Nat}(h:jM w b T rest vi mp vt aj aS n f)(v:Value):
  jM (w.setCell ⟨b,3+j,none⟩ v) b T (rest.set j v) vi mp vt aj aS n f:=by
 have st:∀k,k≠b->(w.setCell ⟨b,3+j,none⟩ v).heap[k]? =w.heap[k]? := fun k hk=>Below.heap_setCell _ _ _ _ hk
 refine⟨h.ty,?_,qz h.ri fun k hk=>st k (fun e=>h.ib (e ▸ hk)),qz h.rt fun k hk=>st k (fun e=>h.tb (e ▸ hk)),h.num.far (st mp h.mb)⟩
 rw[heap_setCell_same w b (3+j) _ _ v h.blk];unfold MO
 congr 2
 rw[show 3+j=j+1+1+1 by omega]
 simp
theorem kW.oQ{T0:Tr}{w:World}{G:Nat->Prop}{b j:Nat}{T:TypeId}{rest:List Value}{aj:List It}(h:kW T0 w G b T rest aj)(v:Value):
  kW T0 (w.setCell ⟨b,3+j,none⟩ v) G b T (rest.set j v) aj:=by
 obtain⟨aS,hp,ht⟩:=h.ex;obtain⟨vi,mp,vt,hr,hG⟩:=hp.ex;exact⟨h.t0,h.low,h.BJ,aS,⟨hp.nd,hp.tl,hp.few,hp.ok,hp.tok,vi,mp,vt,hr.oQ v,hG⟩,ht⟩
theorem kW.blk(h:kW T0 w G b T rest aj):∃vi mp vt,w.heap[b]? =some (.cells (MO vi mp vt rest) T (0,0))/\G b:=by
 obtain⟨aS,hp,ht⟩:=h.ex;obtain⟨vi,mp,vt,hr,hG⟩:=hp.ex;exact⟨vi,mp,vt,hr.blk,(hG b).2 (Or.inl rfl)⟩
def jV(p mn:Nat)(vm vs:Value):List Value:=[P7 p,.map (some mn),vm,vs]
def vg(aj:List It)(met:List Nat)(M:Mt):Prop:=met.length=M.length/\∀(n i:Nat),met[n]? =some i->∃S:Tr,Rep aj i S/\M[n]? =some S.flat
theorem vg.pre{aj aI:List It}{met:List Nat}{M:Mt}(h:vg aj met M)(hp:aj <+: aI):vg aI met M:=⟨h.1,fun n i hi=>by
 obtain⟨S,h1,h2⟩:=h.2 n i hi;exact⟨S,h1.pre hp,h2⟩⟩
structure mM(T0:Tr)(w:World)(G:Nat->Prop)(p mn:Nat)(vm vs:Value)(aj:List It)(met:List Nat)(M:Mt):Prop where
 po:kW T0 w G p 89 (jV p mn vm vs) aj
 row:w.ownsRow 0 3 1 vm met.length (iZ met)
 num:jA w mn met.length (wZ M)
 met:vg aj met M
 ng:¬G mn
 nv:∀k,vm.ownBlock=some k->¬G k
def FQ(G:Nat->Prop)(mn:Nat)(vm:Value)(k:Nat):Prop:=G k\/k=mn\/vm.ownBlock=some k
structure iE(T0:Tr)(w:World)(F:Nat->Prop)(p:Nat)(vs:Value)(aj:List It)(M:Mt):Prop where
 few:M.length<=64
 nd:M.Nodup
 of:∀f∈M,∃S,KT S/\jD T0 S/\f=S.flat
 ex:∃G mn vm met,mM T0 w G p mn vm vs aj met M/\∀k,F k↔FQ G mn vm k
section
variable {T0:Tr}{w:World}{G:Nat->Prop}{p mn:Nat}{vm vs:Value}{aj:List It}{met:List Nat}{M:Mt}
theorem mM.vn(h:mM T0 w G p mn vm vs aj met M):vm.ownBlock≠some mn:=by
 obtain⟨es,c,hm⟩:=h.num.isMap;exact FN h.row hm fun cs e=>by cases e
theorem mM.lt(h:mM T0 w G p mn vm vs aj met M):∀k,FQ G mn vm k->k<w.heap.size:=fun k hk=>by
 rcases hk with hk|rfl|hk
 ·exact h.po.lt k hk
 ·exact h.num.lt
 ·exact vP h.row k hk
theorem mM.far{w':World}(h:mM T0 w G p mn vm vs aj met M)(hb:∀k,FQ G mn vm k->w'.heap[k]? =w.heap[k]?):mM T0 w' G p mn vm vs aj met M :=
 ⟨h.po.far fun k hk=>hb k (Or.inl hk),qz h.row fun k hk=>hb k (Or.inr (Or.inr hk)),h.num.far (hb mn (Or.inr (Or.inl rfl))),h.met,h.ng,h.nv⟩
theorem mM.c4(h:mM T0 w G p mn vm vs aj met M):w.cell? ⟨p,4,none⟩=some (.map (some mn)):=by
 obtain⟨vi,mp,vt,hb,_⟩:=h.po.blk;exact qc hb 4
theorem mM.c3(h:mM T0 w G p mn vm vs aj met M):w.cell? ⟨p,3,none⟩=some (.pointer (some ⟨p,0,none⟩)):=by
 obtain⟨vi,mp,vt,hb,_⟩:=h.po.blk;exact qc hb 3
theorem mM.c5(h:mM T0 w G p mn vm vs aj met M):w.cell? ⟨p,5,none⟩=some vm:=by
 obtain⟨vi,mp,vt,hb,_⟩:=h.po.blk;exact qc hb 5
theorem mM.c6(h:mM T0 w G p mn vm vs aj met M):w.cell? ⟨p,6,none⟩=some vs:=by
 obtain⟨vi,mp,vt,hb,_⟩:=h.po.blk;exact qc hb 6
theorem mM.gp(h:mM T0 w G p mn vm vs aj met M):G p:=by
 obtain⟨vi,mp,vt,hb,hg⟩:=h.po.blk;exact hg
theorem mM.fz(h:mM T0 w G p mn vm vs aj met M)(j:Nat):w.frozen? ⟨p,j,none⟩=false:=by
 obtain⟨vi,mp,vt,hb,_⟩:=h.po.blk;exact frozen_of_row w p j _ _ hb
theorem mM.part{G':Nat->Prop}{aI:List It}(h:mM T0 w G p mn vm vs aj met M)(hp:kW T0 w' G' p 89 (jV p mn vm vs) aI)(hi:aj <+: aI)(fr:Fr w w' G G'):mM T0 w' G' p mn vm vs aI met M/\Fr w w' (FQ G mn vm) (FQ G' mn vm):=by
 refine⟨⟨hp,qz h.row fun k hk=>fr.keep k (vP h.row k hk) (h.nv k hk),h.num.far (fr.keep mn h.num.lt h.ng),h.met.pre hi,fr.out h.ng h.num.lt,fun k hk=>fr.out (h.nv k hk) (vP h.row k hk)⟩,fr.os,fr.tape,fr.output,fr.size,fun k hk hF=>fr.keep k hk fun e=>hF (Or.inl e),fun k hk=>?_⟩
 rcases hk with hk|hk|hk
 ·exact(fr.foot k hk).imp Or.inl id
 ·exact Or.inl (Or.inr (Or.inl hk))
 ·exact Or.inl (Or.inr (Or.inr hk))
theorem mM.put(h:mM T0 w G p mn vm vs aj met M)(hg:w.grownBy w' (some mn)):kW T0 w' G p 89 (jV p mn vm vs) aj/\w'.ownsRow 0 3 1 vm met.length (iZ met)/\Fr w w' (FQ G mn vm) (FQ G mn vm):=by
 have st:∀k,k<w.heap.size->k≠mn->w'.heap[k]? =w.heap[k]? := fun k hk hne=>hg.block k hk (fun e=>hne (by injection e))
 exact⟨h.po.far fun k hk=>st k (h.po.lt k hk) (fun e=>h.ng (e ▸ hk)),qz h.row fun k hk=>st k (vP h.row k hk) (fun e=>h.vn (e ▸ hk)),hg.os,hg.tape,hg.output,hg.size,fun k hk hF=>st k hk fun e=>hF (Or.inr (Or.inl e)),fun _ hk=>Or.inl hk⟩
end
section
variable {T0:Tr}{w:World}{F:Nat->Prop}{p:Nat}{vs:Value}{aj:List It}{M:Mt}
theorem iE.lt(h:iE T0 w F p vs aj M):∀k,F k->k<w.heap.size:=fun k hk=>by
 obtain⟨G,mn,vm,met,hr,hF⟩:=h.ex;exact hr.lt k ((hF k).1 hk)
theorem iE.far(h:iE T0 w F p vs aj M)(hb:∀k,F k->w'.heap[k]? =w.heap[k]?):iE T0 w' F p vs aj M:=by
 obtain⟨G,mn,vm,met,hr,hF⟩:=h.ex;exact⟨h.few,h.nd,h.of,G,mn,vm,met,hr.far fun k hk=>hb k ((hF k).2 hk),hF⟩
theorem iE.up(h:iE T0 w F p vs aj M)(hb:Below w.heap.size w w'):iE T0 w' F p vs aj M:=h.far fun k hk=>hb.block k (h.lt k hk)
theorem iE.small(h:iE T0 w F p vs aj M)(t0:KT T0):∀f∈M,BP f:=fun f hf=>by
 obtain⟨S,_,h2,rfl⟩:=h.of f hf;exact Yn t0 h2
theorem iE.t0(h:iE T0 w F p vs aj M):Qh T0:=by
 obtain⟨G,mn,vm,met,hr,hF⟩:=h.ex;exact hr.po.t0
theorem iE.good(h:iE T0 w F p vs aj M):dM M:=⟨fun f hf=>by
 obtain⟨S,h1,_,rfl⟩:=h.of f hf;exact⟨S,h1,rfl⟩,h.few⟩
end
def Gi(T0:Tr)(w:World)(F:Nat->Prop)(p:Nat)(vs:Value)(aj:List It)(M:Mt)(S:Tr)(e:Ending)(w':World):Prop :=
 ∃F',Fr w w' F F'/\((∃(n:Nat) (M':Mt),dQ S.flat M=some ([2 ^ n],M')/\n<64/\e=.returned (.int .i64 n)/\iE T0 w' F' p vs aj M')\/(dQ S.flat M=none/\e=.panicked gK/\iE T0 w' F' p vs aj M))
theorem qig(h:vg aj met M)(hn:M.findIdx? (· == g)=some n):n<met.length:=by
 have:=(List.findIdx?_eq_some_iff_getElem.1 hn).1
 rw[h.1];exact this
theorem mM.YT{w w5:World}{G:Nat->Prop}{p mn:Nat}{vm vs v5:Value}{met:List Nat}{S:Tr}(t0:KT T0)(hM:∀f∈M,BP f)(hS:jD T0 S)(hi:Rep aj i S)(hno:M.findIdx? (· == S.flat)=none)
  (hpo:kW T0 w G p 89 (jV p mn vm vs) aj) (hrow:w.ownsRow 0 3 1 vm met.length (iZ met)) (hnum:jA w mn (met.length+1) (fun y=>if y=mJ S then some met.length else wZ M y)) (hmet:vg aj met M) (QI:¬G mn) (pM:∀k,vm.ownBlock=some k->¬G k)
  (hg:(w.alloc (.cells #[.int .i64 i] 3)).grownBy w5 vm.ownBlock) (ho:w5.ownsRow 0 3 1 v5 (met.length+1) (iZ met++[.int .i64 i])) (hl:v5.ownBlock=vm.ownBlock\/v5.ownBlock=some (w.heap.size+1)):
  w5.cell? ⟨p,5,none⟩=some vm/\w5.frozen? ⟨p,5,none⟩=false/\mM T0 (w5.setCell ⟨p,5,none⟩ v5) G p mn v5 vs aj (met++[i]) (M++[S.flat])/\Fr w (w5.setCell ⟨p,5,none⟩ v5) (FQ G mn vm) (FQ G mn v5):=by
 have hb1:=qd w (.cells #[.int .i64 i] 3);have hz:(w.alloc (.cells #[.int .i64 i] 3)).heap.size=w.heap.size+1:=by simp
 have hs:=hg.size;have st:∀k,k<w.heap.size->vm.ownBlock≠some k->w5.heap[k]? =w.heap[k]? := fun k hk hne=>(hg.block k (by omega) (fun e=>hne e.symm)).trans (hb1.block k hk)
 have hGv:∀k,G k->vm.ownBlock≠some k:=fun k hk e=>pM k e hk
 have QJ:=hpo.far (w':=w5) fun k hk=>st k (hpo.lt k hk) (hGv k hk)
 obtain⟨es,cl,hmap⟩:=hnum.isMap;have hvn:vm.ownBlock≠some mn:=FN hrow hmap fun cs e=>by cases e
 obtain⟨vi,mp,vt,hb5,Bc⟩:=QJ.blk
 have hv5:∀k,v5.ownBlock=some k->¬G k:=fun k hk hG=>by
  rcases hl with e|e
  ·rw[e]at hk;exact pM k hk hG
  ·rw[e]at hk;injection hk with hk;have:=hpo.lt k hG;omega
 have s6:∀k,k≠p->(w5.setCell ⟨p,5,none⟩ v5).heap[k]? =w5.heap[k]? := fun k hk=>Below.heap_setCell _ _ _ _ hk
 refine⟨qc hb5 5,frozen_of_row w5 p 5 _ _ hb5,⟨QJ.oQ (j:=2) v5,?_,?_,⟨by simp[hmet.1],fun n j hj=>?_⟩,QI,hv5⟩,hg.os,hg.tape,hg.output,by simp;omega,fun k hk hF=>?_,fun k hk=>?_⟩
 ·rw[List.length_append]
  have:iZ (met++[i])=iZ met++[.int .i64 i]:=by simp[iZ]
  rw[this];exact qz ho fun k hk=>s6 k (fun e=>hv5 k hk (e ▸ Bc))
 ·rw[List.length_append]
  refine ((hnum.far (w':=w5.setCell ⟨p,5,none⟩ v5) ((s6 mn (fun e=>QI (e ▸ Bc))).trans (st mn hnum.lt hvn))).alike fun y _=>?_)
  rw[hmet.1];exact qgC hM (Yn t0 hS) hno y
 ·by_cases hlt:n<met.length
  ·rw[List.getElem?_append_left hlt]at hj
   obtain⟨S',h1,h2⟩:=hmet.2 n j hj;exact⟨S',h1,by rw[List.getElem?_append_left (by rw[<-hmet.1];exact hlt)];exact h2⟩
  ·have hn:n=met.length:=by
    have:=(List.getElem?_eq_some_iff.1 hj).1
    simp at this
    omega
   subst hn;simp at hj
   subst hj;exact⟨S,hi,by rw[hmet.1];simp⟩
 ·exact(s6 k fun e=>hF (Or.inl (e ▸ Bc))).trans (st k hk fun e=>hF (Or.inr (Or.inr e)))
 ·rcases hk with hk|hk|hk
  ·exact Or.inl (Or.inl hk)
  ·exact Or.inl (Or.inr (Or.inl hk))
  ·rcases hl with e|e
   ·rw[e]at hk;exact Or.inl (Or.inr (Or.inr hk))
   ·rw[e]at hk;injection hk with hk;right;omega
theorem q9b(h:iE T0 w F p vs aj M)(i:Nat)(S:Tr)(hi:Rep aj i S)(hS:jD T0 S)(kS:KT S):
  Calls prog 78 #[.pointer (some ⟨p,0,none⟩),.int .i64 i] w (Gi T0 w F p vs aj M S):=by
 obtain⟨G,mn,vm,met,hr,hF⟩:=h.ex;have t0:=h.t0;have hsm:=h.small t0.kt;have jt:=nL hr.po i S hi hS;have HT:Hid (∀w1,sW T0 w G p 89 (jV p mn vm vs) aj w1->mM T0 w1 G p mn vm vs aj met M/\Fr w w1 (FQ G mn vm) (FQ G mn vm)):=fun w1 hq=>hr.part hq.1 (List.prefix_refl _) hq.2
 have hso:xK (mJ S):=by unfold xK;rw[Yv];have:=(Qd t0.sz hS).1;omega
 have hlk:wZ M (mJ S)=M.findIdx? (· == S.flat):=YS hsm (Yn t0.kt hS);have hfr:∀{w':World}{G':Nat->Prop}{pN:Nat}{pP:Value},Fr w w' (FQ G mn vm) (FQ G' pN pP)->Fr w w' F (FQ G' pN pP):=fun fr=>fr.alike (fun k hk=>(hF k).2 hk) (fun k hk=>hk)
 have hml:=hr.met.1;have hfew:=h.few
 cases hf:M.findIdx? (· == S.flat) with
 |some n=>
  have hn:=qig hr.met hf;have hm:dQ S.flat M=some ([2 ^ n],M):=by unfold dQ;rw[hf]
  have iy:Hid (∀w1,sW T0 w G p 89 (jV p mn vm vs) aj w1->Gi T0 w F p vs aj M S (.returned (.int .i64 n)) w1):=fun w1 hq=>by
   obtain⟨h1,h2⟩:=HT.out w1 hq;exact⟨_,hfr h2,Or.inl ⟨n,M,hm,by omega,rfl,h.few,h.nd,h.of,G,mn,vm,met,h1,fun k=>Iff.rfl⟩⟩
  have og:Hid (∀w1,mM T0 w1 G p mn vm vs aj met M->(Instr.lookup 87 (.map (some mn)) (.string (mJ S)) true).run prog w1=.ok (.tuple #[.int .i64 n,.bool true]) w1):=fun w1 h1=>by
   have:=h1.num.look hso
   rw[hlk,hf]at this;exact this
  clear h hr hF t0 hsm hi hS kS hso hlk hfr hml hfew hf hn hm;generalize mJ S=s at *;go_enter func78,ntmps78
  go_wp2_with fail
  refine jt.mono ?_
  rintro e w1 ⟨rfl,hq⟩
  have hR:=(HT.out w1 hq).1;have c4:=hR.c4;have hlook:=og.out w1 hR;have HQ:Hid _:=iy.out w1 hq;clear jt hq hR HT iy og;go_wp2;go_ret
  exact HQ.out
 |none=>
  by_cases hl:M.length<64
  ·have hm:dQ S.flat M=some ([2 ^ met.length],M++[S.flat]):=by unfold dQ;rw[hf,hml];dsimp only;rw[if_pos hl]
   have og:Hid (∀w1,mM T0 w1 G p mn vm vs aj met M->(Instr.lookup 87 (.map (some mn)) (.string (mJ S)) true).run prog w1=.ok (.tuple #[.int .i64 0,.bool false]) w1/\∃w',(Instr.mapUpdate 87 (.map (some mn)) (.string (mJ S)) (.int .i64 met.length)).run prog w1=.ok () w'/\jA w' mn (met.length+1) (fun y=>if y=mJ S then some met.length else wZ M y)/\w1.grownBy w' (some mn)):=fun w1 h1=>by
    have:=h1.num.look hso
    rw[hlk,hf]at this;exact⟨this,h1.num.put (by omega) hso (hlk.trans hf) met.length (by omega)⟩
   have Iu:Hid _:=fun (w:World) (w5:World) (v5:Value) a b c d e f=>mM.YT (w:=w) (w5:=w5) (v5:=v5) (p:=p) (mn:=mn) (vm:=vm) (vs:=vs) (G:=G) (met:=met) t0.kt hsm hS hi hf a b c hr.met hr.ng hr.nv d e f
   have iy:Hid (∀w6 v5,mM T0 w6 G p mn v5 vs aj (met++[i]) (M++[S.flat])->Fr w w6 (FQ G mn vm) (FQ G mn v5)->Gi T0 w F p vs aj M S (.returned (.int .i64 met.length)) w6):=fun w6 v5 h1 h2=>by
    refine⟨_,hfr h2,Or.inl ⟨met.length,_,hm,by omega,rfl,by simp;omega,List.nodup_append.2 ⟨h.nd,by simp,fun a ha b hb=>by simp at hb;subst hb;exact fun e=>(by have:=List.findIdx?_eq_none_iff.1 hf a ha;simp[e]at this)⟩,fun f hf2=>?_,G,mn,v5,_,h1,fun k=>Iff.rfl⟩⟩
    rcases List.mem_append.1 hf2 with h3|h3
    ·exact h.of f h3
    ·exact⟨S,kS,hS,by simpa using h3⟩
   obtain⟨av,cv,rfl⟩:=qK hr.row;have YU:((met.length:Int)==64)=false:=by rw[lu];omega
   have hl65:met.length<=64:=by omega
   clear h hr hF t0 hsm hi hS kS hso hlk hfr hml hfew hf hm hl;generalize hs:mJ S=s at *;clear hs;generalize Us:met.length=L at *;go_enter func78,ntmps78
   go_wp2_with fail
   refine jt.mono ?_
   rintro e w1 ⟨rfl,hq⟩
   have hR:=HT.out w1 hq;have c4:=hR.1.c4;have c5:=hR.1.c5;obtain⟨hlook,w2,hrun,hn2,hg2⟩:=og.out w1 hR.1;obtain⟨J6,hrow2,dA⟩:=hR.1.put hg2;obtain⟨vi,mp,vt,hb2,Bc⟩:=J6.blk;have d5:w2.cell? ⟨p,5,none⟩=some (.slice av L cv):=qc hb2 5;have hc3:(w2.alloc (.cells #[.int .i64 i] 3)).cell? ⟨w2.heap.size,0,none⟩=some (.int .i64 i):=qc (dO w2 _).1 0;rw[Us]at hrow2;have hO3:(w2.alloc (.cells #[.int .i64 i] 3)).ownsRow 0 3 1 (.slice av L cv) L (iZ met):=World.ownsRow.alloc hrow2 _;have pQ:Hid _:=J6;have QK:Hid _:=hrow2;have BG:Hid _:=hn2;have QL:Hid (Fr w w2 _ _):=hR.2.trans dA;clear jt hq hR HT og J6 hrow2 dA hb2 Bc hn2 hg2
   go_wp2_with (at_builtin;refine Yl underlying71 nQ rfl (by decide) rfl _ _ rfl 0 _ L (iZ met) (.int .i64 i) w2.heap.size rfl rfl hO3 hc3 rfl (by omega) (Nat.zero_le _) ?_)
   intro v5 w5 hown5 hgr5 mV;obtain⟨a5,k5,rfl⟩:=qK hown5;obtain⟨e5,z5,MW,yA⟩:=Iu.out w2 w5 _ pQ.out QK.out BG.out hgr5 hown5 mV;have HQ:Hid _:=iy.out _ _ MW (QL.out.trans yA);clear hO3 hc3 hown5 hgr5 mV MW yA d5 pQ QK BG QL iy Iu;go_wp2;go_ret
   exact HQ.out
  ·have hm:dQ S.flat M=none:=by unfold dQ;rw[hf];dsimp only;rw[if_neg hl]
   have og:Hid (∀w1,mM T0 w1 G p mn vm vs aj met M->(Instr.lookup 87 (.map (some mn)) (.string (mJ S)) true).run prog w1=.ok (.tuple #[.int .i64 0,.bool false]) w1):=fun w1 h1=>by
    have:=h1.num.look hso
    rw[hlk,hf]at this;exact this
   have iy:Hid (∀w1,sW T0 w G p 89 (jV p mn vm vs) aj w1->Gi T0 w F p vs aj M S (.panicked gK) w1):=fun w1 hq=>by
    obtain⟨h1,h2⟩:=HT.out w1 hq;exact⟨_,hfr h2,Or.inr ⟨hm,rfl,h.few,h.nd,h.of,G,mn,vm,met,h1,fun k=>Iff.rfl⟩⟩
   obtain⟨av,cv,rfl⟩:=qK hr.row;have YU:((met.length:Int)==64)=true:=by rw[beq_iff_eq];omega
   clear h hr hF t0 hsm hi hS kS hso hlk hfr hml hfew hf hm hl;generalize mJ S=s at *;go_enter func78,ntmps78
   go_wp2_with fail
   refine jt.mono ?_
   rintro e w1 ⟨rfl,hq⟩
   have hR:=(HT.out w1 hq).1;have c4:=hR.c4;have c5:=hR.c5;have hlook:=og.out w1 hR;have HQ:Hid _:=iy.out w1 hq;clear jt hq hR HT iy og;go_wp2;obtain⟨F',fr,⟨_,_,_,_,h,_⟩|⟨h1,_,h3⟩⟩:=HQ.out
   ·cases h
   ·exact⟨rfl,F',fr,Or.inr ⟨h1,rfl,h3⟩⟩
theorem qi1(x y:Nat)(hx:x<2 ^ 64)(hy:y<2 ^ 64):(bits BinOp.and IntKind.u64 (x:Int) (y:Int)==(x:Int))=decide (Wi x y):=by
 rw[bits_and_u64_nat x y hx hy,Bool.eq_iff_iff,beq_iff_eq,decide_eq_true_iff]
 constructor
 ·intro h
  exact Int.ofNat.inj h
 ·intro h
  exact congrArg Int.ofNat h
theorem q7v(x y:Nat)(hx:x<2 ^ 64)(hy:y<2 ^ 64)(w:World):Calls prog 110 #[.int .u64 x,.int .u64 y] w fun e w'=>e=.returned (.bool (decide (Wi x y)))/\w'=w:=by
 have h:=qi1 x y hx hy;have HD:Hid _:=h;clear h;go_enter func110,ntmps110
 go_wp2;go_ret
 exact⟨by rw[<-HD.out];rfl,rfl⟩
theorem QM(hu:P.underlying T=some (.slice e))(hs:(P.info? e).map (·.size)=some 1)(a:Option Addr)(n cap lo:Nat)(hl:lo<=n)(hc:n<=cap)(hn:a=none->cap=0):
  ∃a',(∀w,(Instr.sliceAt T (.slice a n cap) (some (.int .i64 lo)) none none).run P w=.ok (.slice a' (n-lo) (cap-lo)) w)/\(a'=none->cap-lo=0)/\∀k,k<n-lo->aG a' k=aG a (lo+k):=by
 cases a with
 |none=>
  have:=hn rfl
  subst this;obtain rfl:n=0:=by omega
  obtain rfl:lo=0:=by omega
  exact⟨none,fun w=>by simp[Instr.sliceAt,Instr.slice,run_underlying hu,q2z hs,go_sem],fun _=>rfl,fun k hk=>absurd hk (by omega)⟩
 |some x=>
  by_cases hz:cap=lo
  ·refine⟨some x,fun w=>?_,(fun h=>by cases h),fun k hk=>absurd hk (by omega)⟩
   have hz2:cap-lo=0:=by omega
   simp[Instr.sliceAt,Instr.slice,run_underlying hu,q2z hs,go_sem,hl,hz2]
   exact fun h=>absurd hz h
  ·refine⟨some (x.add lo),fun w=>?_,(fun h=>by cases h),fun k hk=>?_⟩
   ·simp[Instr.sliceAt,Instr.slice,run_underlying hu,q2z hs,go_sem,hl]
    exact fun h=>absurd h hz
   ·simp only[aG];rw[Ue]
theorem Iw(hu:P.underlying T=some (.slice e))(hs:(P.info? e).map (·.size)=some 1)(a:Option Addr)(n cap m:Nat)(hl:m<=n)(hc:n<=cap)(hn:a=none->cap=0)(w:World):
  (Instr.sliceAt T (.slice a n cap) none (some (.int .i64 m)) none).run P w=.ok (.slice a m cap) w:=by
 cases a with
 |none=>
  have:=hn rfl
  subst this;obtain rfl:n=0:=by omega
  obtain rfl:m=0:=by omega
  simp[Instr.sliceAt,Instr.slice,run_underlying hu,q2z hs,go_sem]
 |some x=>
  have hmc:m<=cap:=by omega
  simp[Instr.sliceAt,Instr.slice,run_underlying hu,q2z hs,go_sem,hmc]
theorem YV:(prog.info? 37).map (·.size)=some 1:=by kernel_rfl
theorem fH.tail(h:fH w a n c l)(lo:Nat)(hl:lo<=n):∃a',(∀w',(Instr.sliceAt 36 (.slice a n c) (some (.int .i64 lo)) none none).run prog w'=.ok (.slice a' (n-lo) (c-lo)) w')/\fH w a' (n-lo) (c-lo) (l.drop lo):=by
 obtain⟨a',h1,h2,h3⟩:=QM (P:=prog) (T:=36) underlying36 YV a n c lo hl h.hcap h.nn;have hz:=h.len;refine⟨a',h1,⟨by simp[iU,hz],by have:=h.hcap;omega,by have:=h.bd;omega,fun n k w' hk hn=>?_,fun k hk=>?_,fun k hk=>?_,h2⟩⟩
 ·exact yK underlying36 YV (fun e=>by have:=h2 e;have:=h.hcap;omega) k w' hk
 ·rw[h3 k hk,h.cell (lo+k) (by omega)]
  simp[List.getD_eq_getElem?_getD,iU]
 ·rw[h3 k hk];exact h.blk (lo+k) (by omega)
theorem fH.head(h:fH w a n c l)(m:Nat)(hl:m<=n):(∀w',(Instr.sliceAt 36 (.slice a n c) none (some (.int .i64 m)) none).run prog w'=.ok (.slice a m c) w')/\fH w a m c (l.take m):=by
 have hz:=h.len;refine⟨fun w'=>Iw underlying36 YV a n c m hl h.hcap h.nn w',⟨by simp[iU];omega,by have:=h.hcap;omega,h.bd,fun n k w' hk hn=>h.idx n k w' hk (by omega),fun k hk=>?_,fun k hk=>h.blk k (by omega),h.nn⟩⟩
 rw[h.cell k (by omega)]
 simp[List.getD_eq_getElem?_getD,iU,hk]
theorem Iy(h:fH w a n c l)(k:Nat)(hk:k<n):w.cell? (aG a k)=some (.int .u64 (l.getD k 0:Nat)):=by
 rw[h.cell k hk]
 congr 2
 simp only[List.getD_eq_getElem?_getD,iU,List.getElem?_map]
 cases l[k]?<;>rfl
def wB(l:List Nat)(i k:Nat):Prop:=∀j,j<k->¬(Wi (l.getD j 0) (l.getD i 0)/\(l.getD j 0≠l.getD i 0\/j<i))
theorem qfB{k:Nat}:wB l i (k+1)↔wB l i k/\¬(Wi (l.getD k 0) (l.getD i 0)/\(l.getD k 0≠l.getD i 0\/k<i)):=by
 constructor
 ·exact fun h=>⟨fun j hj=>h j (by omega),h k (by omega)⟩
 ·rintro⟨h1,h2⟩ j hj
  by_cases e:j=k
  ·subst e;exact h2
  ·exact h1 j (by omega)
theorem pT(a:Option Addr)(n c:Nat)(l:List Nat)(w:World)(hS:fH w a n c l)(sL:Sm l)(hn:n<=1000000):
  Calls prog 86 #[.slice a n c] w (sJ (aJ l) w):=by
 have hln:=hS.len;have HS:=aX hS;have pX:Hid (l.length=n):=hln.symm
 have HX:Hid (∀k,k<n->l.getD k 0<2 ^ 64):=fun k hk=>by
  have hk':k<l.length:=by omega
  rw[List.getD_eq_getElem?_getD,kU hk'];exact sL _ (List.getElem_mem hk')
 have hidx:=fun (k:Nat) (w:World) (h:k<n)=>hS.idx n k w h bZ
 obtain⟨Q,hQ⟩:∃Q:Ending->World->Prop,Q=sJ (aJ l) w:=⟨_,rfl⟩
 have HQ:Hid (∀e w',sJ (aJ l) w e w'->Q e w'):=fun e w' h=>by rw[hQ];exact h
 rw[<-hQ];clear hS hln sL hQ;go_enter func86,ntmps86
 go_wp2
 go_loopw [3,4] (fun v i wr=>∃(k:Nat) (out:List Nat),k<=n/\i=.int .i64 k/\Hid (wr.ownsRow w.heap.size 37 1 v out.length ((iU out).map (Value.int .u64)))/\Hid (lK l k out)/\Hid (out.length<=k)/\Hid (Below w.heap.size w wr)) (fun _ i _=>n-(intOf i).toNat)
 case atStart=>exact⟨0,[],Nat.zero_le _,rfl,⟨rfl,Or.inl ⟨rfl,rfl⟩⟩,lK.start l,bZ,Below.refl _ _⟩
 case round=>
  obtain⟨k,out,hk,rfl,HO,MX,HOL,HW⟩:=hrel;obtain⟨W1,hW1⟩:∃W1,W1=wr:=⟨_,rfl⟩
  subst hW1;obtain⟨va,vc,rfl,oL⟩:=MC HO.out;by_cases hlt:k<n
  ·have HU:=aX oL
   have hck:=Iy (HS.out.up HW.out) k hlt;have hxk:=fun w'=>hidx k w' hlt
   have hX2:=HX.out k hlt;clear oL;generalize hx:l.getD k 0=x at *;have Iz:=aX hx;clear hx;go_wp2
   go_loopw [5,6] (fun b i wr=>∃(j:Nat) (b':Bool),j<=n/\i=.int .i64 j/\b=.bool b'/\Hid (b'=true↔wB l k j)/\Hid (∃q,wr=W1.drewN q)) (fun _ i _=>n-(intOf i).toNat)
   case atStart=>exact⟨0,true,Nat.zero_le _,rfl,rfl,⟨fun _ j hj=>absurd hj (by omega),fun _=>rfl⟩,0,rfl⟩
   case round=>
    obtain⟨j,b',hj,rfl,rfl,og,HD⟩:=hrel;by_cases hjn:j<n
    ·obtain⟨q,hq⟩:=HD.out
     have iY:fH wr a n c l:=by rw[hq];exact((HS.out.up HW.out).drewN q)
     have hcj:=Iy iY j hjn;have YW:=Iy iY k hlt;rw[Iz.out]at YW;have hxj:=fun w'=>hidx j w' hjn
     have hwi:=fun w'=>q7v (l.getD j 0) x (HX.out j hjn) hX2 w'
     have fQ:Hid (wB l k (j+1)↔wB l k j/\¬(Wi (l.getD j 0) x/\(l.getD j 0≠x\/j<k))):=by show _↔_;rw[qfB,Iz.out]
     clear iY hq;generalize l.getD j 0=y at *
     have HDR:Hid (∀nq,∃q,wr.drewN nq=W1.drewN q):=fun nq=>by
      obtain⟨q,hq⟩:=HD.out;exact⟨q+nq,by rw[hq,World.drewN_drewN]⟩
     by_cases hw:Wi y x
     ·have HW2:Hid _:=hw
      rw[decide_eq_true hw]at hwi;clear hw;by_cases hy:y=x
      ·subst hy
       by_cases hjk:j<k
       ·have YX:decide ((j:Int)<(k:Int))=true:=decide_eq_true (by omega)
        have BL:Hid (¬wB l k (j+1)):=fun h=>(fQ.out.1 h).2 ⟨HW2.out,Or.inr hjk⟩
        clear fQ og
        go_wp2_with fail
        go_quiet ((go_at_call 110;exact Calls.quiet_of_same (hwi _)))
        go_wp2
        go_roundw
        case rel=>exact⟨j+1,false,by omega,by go_num,rfl,⟨fun h=>(by cases h),fun h=>absurd h BL.out⟩,HDR.out nq⟩
        case measure=>simp[intOf];omega
       ·have YX:decide ((j:Int)<(k:Int))=false:=decide_eq_false (by omega)
        have YZ:Hid (b'=true↔wB l k (j+1)):=og.out.trans (by rw[fQ.out];exact⟨fun h=>⟨h,fun⟨_,h2⟩=>h2.elim (fun h=>h rfl) hjk⟩,fun h=>h.1⟩)
        clear fQ og
        go_wp2_with fail
        go_quiet ((go_at_call 110;exact Calls.quiet_of_same (hwi _)))
        go_wp2
        go_roundw
        case rel=>exact⟨j+1,b',by omega,by go_num,rfl,YZ,HDR.out nq⟩
        case measure=>simp[intOf];omega
      ·have hne:((y:Int) != (x:Int))=true:=by simp;omega
       have BL:Hid (¬wB l k (j+1)):=fun h=>(fQ.out.1 h).2 ⟨HW2.out,Or.inl hy⟩
       clear fQ og
       go_wp2_with fail
       go_quiet ((go_at_call 110;exact Calls.quiet_of_same (hwi _)))
       go_wp2
       go_roundw
       case rel=>exact⟨j+1,false,by omega,by go_num,rfl,⟨fun h=>(by cases h),fun h=>absurd h BL.out⟩,HDR.out nq⟩
       case measure=>simp[intOf];omega
     ·rw[decide_eq_false hw]at hwi
      have YZ:Hid (b'=true↔wB l k (j+1)):=og.out.trans (by rw[fQ.out];exact⟨fun h=>⟨h,fun h2=>hw h2.1⟩,fun h=>h.1⟩)
      clear fQ og hw
      go_wp2_with fail
      go_quiet ((go_at_call 110;exact Calls.quiet_of_same (hwi _)))
      go_wp2
      go_roundw
      case rel=>exact⟨j+1,b',by omega,by go_num,rfl,YZ,HDR.out nq⟩
      case measure=>simp[intOf];omega
    ·have QN:j=n:=by omega
     have hkl:k<l.length:=by rw[pX.out];exact hlt
     have Io:Hid (wr.ownsRow w.heap.size 37 1 (.slice va out.length vc) out.length ((iU out).map (Value.int .u64))/\Below w.heap.size w wr/\fH wr va out.length vc out):=by
      obtain⟨q,hq⟩:=HD.out;have hb:Below W1.heap.size W1 wr:=by rw[hq];exact below_drewN (Below.refl _ _) q
      exact⟨qC HO.out hb,qe HW.out hb,HU.out.up hb⟩
     cases b' with
     |false=>
      have HSK:Hid (lK l (k+1) out):=MX.out.skip hkl (fun h=>by
       have h2:=og.out.2 (fun i hi=>h i (by rw[pX.out,<-QN];exact hi))
       cases h2)
      have l9:Hid _:=Io.out.1;have HW2:Hid _:=Io.out.2.1;have Y0:Hid (out.length<=k+1):=Nat.le_succ_of_le HOL.out;clear Io og MX HOL HU HO HW;go_wp2;refine⟨⟨k+1,out,by omega,by go_num,l9,HSK,Y0,HW2⟩,?_⟩
      simp[intOf];omega
     |true=>
      have Qu:Hid (Dp l k):=fun i hi=>og.out.1 rfl i (by rw[QN,<-pX.out];exact hi)
      have hol:out.length<=1000000:=by have:=HOL.out;omega
      obtain⟨W2,hW2⟩:∃W2,W2=wr:=⟨_,rfl⟩
      subst hW2;clear og HU HO HW HD;go_wp2
      go_loopw [7] (fun i wr=>∃t:Nat,t<=out.length/\i=.int .i64 t/\Hid (∀j,t<=j->j<out.length->x<out.getD j 0)/\Hid (∃q,wr=W2.drewN q)) (fun i _=>(intOf i).toNat)
      case atStart=>exact⟨out.length,bZ,rfl,fun j h1 h2=>absurd h1 (by omega),0,rfl⟩
      case round=>
       obtain⟨t,ht,rfl,BN,HD⟩:=hrel
       have HDR:Hid (∀nq,∃q,wr.drewN nq=W2.drewN q):=fun nq=>by
        obtain⟨q,hq⟩:=HD.out;exact⟨q+nq,by rw[hq,World.drewN_drewN]⟩
       have Y1:Hid (∀nq,fH (wr.drewN nq) va out.length vc out):=fun nq=>by
        obtain⟨q,hq⟩:=HDR.out nq;rw[hq];exact Io.out.2.2.drewN q
       have DK:Hid (∀nq,Below w.heap.size w (wr.drewN nq)):=fun nq=>by
        obtain⟨q,hq⟩:=HDR.out nq;rw[hq];exact below_drewN Io.out.2.1 q
       have Dw:Hid (∀nq,(wr.drewN nq).cell? (aG a k)=some (.int .u64 x)):=fun nq=>by
        rw[<-Iz.out];exact Iy (HS.out.up (DK.out nq)) k hlt
       rcases Nat.eq_zero_or_pos t with h0|h0
       ·subst h0
        go_wp2_with fail
        go_quiet (fail)
        have Gj:=Y1.out nq;have hhd:=(Gj.head 0 ht).1;obtain⟨a3,htl,HT3⟩:=Gj.tail 0 ht;have htl0:∀w',(Instr.sliceAt 36 (.slice va out.length vc) (some (.int .i64 0)) none none).run prog w'=.ok (.slice a3 out.length vc) w':=htl;clear htl;have DL:=Dw.out nq;have jW:Hid (fH (wr.drewN nq) va 0 vc (out.take 0)):=(Gj.head 0 ht).2;have zC:=aX HT3;have HB3:Hid (Below w.heap.size w (wr.drewN nq)):=DK.out nq;clear Gj HT3;generalize wr.drewN nq=W3 at *;obtain⟨p,hp⟩:∃p,p=out.take 0:=⟨_,rfl⟩
        obtain⟨d,hd9⟩:∃d,d=out.drop 0:=⟨_,rfl⟩
        have HP:=aX hp;have yP:=aX hd9;have hpl:p.length=0:=by rw[hp,List.length_take];omega
        have hdl0:d.length=out.length-0:=by rw[hd9,List.length_drop]
        have Y2:=aX hpl;rw[<-hp]at jW;rw[<-hd9]at zC;have hpb:p.length<=1000000:=by omega
        have hdb:d.length<=1000000:=by omega
        clear hp hd9 hpl hdl0
        go_wp2_with (at_builtin;refine Jz rfl _ _ rfl W3.heap.size _ [] p va 0 vc rfl rfl ⟨rfl,Or.inl ⟨rfl,rfl⟩⟩ jW.out (by simp) (by omega) (Nat.le_refl _) ?_)
        intro v4 w4 hown4 nJ;have uz:Hid (w4.ownsRow W3.heap.size 37 1 v4 p.length ((iU p).map (Value.int .u64))):=by show World.ownsRow _ _ _ _ _ _ _;simpa [iU] using hown4
        have HB4:Hid (Below W3.heap.size W3 w4):=(Below.refl _ _).grown nJ (Nat.le_refl _) (fun q e=>by simp[Value.ownBlock]at e)
        have J7:w4.cell? (aG a k)=some (.int .u64 x):=qf DL HB4.out;clear hown4 nJ DL hhd jW;obtain⟨QO,QS,rfl⟩:=PX uz.out;have vY:Hid ((w4.alloc (.cells #[.int .u64 x] 37)).ownsRow W3.heap.size 37 1 (.slice QO p.length QS) p.length ((iU p).map (Value.int .u64))):=World.ownsRow.alloc uz.out _;have rE:Hid ((w4.alloc (.cells #[.int .u64 x] 37)).cell? ⟨w4.heap.size,0,none⟩=some (.int .u64 x)):=qc (dO w4 _).1 0;have rF:Hid (Below W3.heap.size W3 (w4.alloc (.cells #[.int .u64 x] 37))):=HB4.out.alloc HB4.out.size _;have hszA:W3.heap.size<=(w4.alloc (.cells #[.int .u64 x] 37)).heap.size:=rF.out.size;have o8:Hid (∀q,(Value.slice QO p.length QS).ownBlock=some q->W3.heap.size<=q):=vO uz.out;have htk:p.length<=1000000:=hpb;clear uz HB4
        go_wp2_with (at_builtin;refine Uw rfl _ _ rfl W3.heap.size _ p.length (iU p) rfl vY.out w4.heap.size (x:Int) rfl rE.out (by omega) hszA ?_)
        intro v5 w5 hown5 hgr5;have Gl:Hid (w5.ownsRow W3.heap.size 37 1 v5 (p++[x]).length ((iU (p++[x])).map (Value.int .u64))):=by show World.ownsRow _ _ _ _ _ _ _;simpa [iU] using hown5
        have xg:Hid (Below W3.heap.size W3 w5):=rF.out.grown hgr5 hszA (fun q e=>o8.out q e)
        have QT:Hid (fH w5 a3 (out.length-0) (vc-0) d):=zC.out.up xg.out;have hsz5:W3.heap.size<=w5.heap.size:=xg.out.size;have hdl:d.length<=10000000:=by omega
        have J8:(p++[x]).length<=10000000:=by rw[List.length_append,List.length_singleton];omega
        have DN:Hid (∀q,v5.ownBlock=some q->W3.heap.size<=q):=vO Gl.out;clear hown5 hgr5 vY rE rF hszA o8 zC J7
        go_wp2_with (at_builtin;refine Jz rfl _ _ rfl W3.heap.size _ (p++[x]) d a3 out.length vc rfl rfl Gl.out QT.out J8 hdl hsz5 ?_)
        intro v6 w6 hown6 tH;have QU:Hid (p++[x]++d=out.take 0++x::out.drop 0):=by show _=_;rw[HP.out,yP.out];simp
        have QV:Hid (w6.ownsRow w.heap.size 37 1 v6 (out.take 0++x::out.drop 0).length ((iU (out.take 0++x::out.drop 0)).map (Value.int .u64))):=by
         show World.ownsRow _ _ _ _ _ _ _
         rw[<-QU.out];exact q6z (by simpa [iU] using hown6) HB3.out.size
        have DR:Hid (Below w.heap.size w w6):=qe HB3.out (xg.out.grown tH hsz5 (fun q e=>DN.out q e))
        have Fh:Hid (lK l (k+1) (out.take 0++x::out.drop 0)):=by
         show lK _ _ _
         rw[<-Iz.out];exact MX.out.put hkl Qu.out ht (by rw[Iz.out];exact BN.out) (Or.inl rfl)
        have Y3:Hid ((out.take 0++x::out.drop 0).length<=k+1):=by
         show _<=_
         have:=HOL.out
         rw[List.length_append,List.length_cons,List.length_take,List.length_drop];omega
        clear hown6 tH Gl xg QT DN HB3 QU;go_wp2;refine⟨⟨k+1,_,by omega,by go_num,QV,Fh,Y3,DR⟩,?_⟩
        simp[intOf];omega
       ·have Y4:fH wr va out.length vc out:=Y1.out 0
        have hcs:=Iy Y4 (t-1) (by omega)
        have hck0:wr.cell? (aG a k)=some (.int .u64 x):=Dw.out 0;have hxs:=fun w'=>Y4.idx out.length (t-1) w' (by omega) bZ
        have ht1:((t-1:Nat):Int)=(t:Int)-1:=by omega
        rw[ht1]at hxs;clear Y4;by_cases hlx:x<out.getD (t-1) 0
        ·have Y5:Hid (∀j,t-1<=j->j<out.length->x<out.getD j 0):=fun j h1 h2=>by
          by_cases e:j=t-1
          ·rw[e];exact hlx
          ·exact BN.out j (by omega) h2
         have hd:decide ((x:Int)<((out.getD (t-1) 0:Nat):Int))=true:=decide_eq_true (by omega)
         generalize out.getD (t-1) 0=y at *;clear BN
         go_wp2_with fail
         go_quiet (fail)
         go_wp2
         go_roundw
         case rel=>exact⟨t-1,by omega,by rw[ht1],Y5,HDR.out nq⟩
         case measure=>simp[intOf]<;>omega
        ·have HPL:Hid (t=0\/¬x<out.getD (t-1) 0):=Or.inr hlx
         have hd:decide ((x:Int)<((out.getD (t-1) 0:Nat):Int))=false:=decide_eq_false (by omega)
         generalize out.getD (t-1) 0=y at hcs hd hlx
         go_wp2_with fail
         go_quiet (fail)
         have Gj:=Y1.out nq;have hhd:=(Gj.head t ht).1;obtain⟨a3,htl,HT3⟩:=Gj.tail t ht;have DL:=Dw.out nq;have jW:Hid (fH (wr.drewN nq) va t vc (out.take t)):=(Gj.head t ht).2;have zC:=aX HT3;have HB3:Hid (Below w.heap.size w (wr.drewN nq)):=DK.out nq;clear Gj HT3;generalize wr.drewN nq=W3 at *;obtain⟨p,hp⟩:∃p,p=out.take t:=⟨_,rfl⟩
         obtain⟨d,hd9⟩:∃d,d=out.drop t:=⟨_,rfl⟩
         have HP:=aX hp;have yP:=aX hd9;have hpl:p.length=t:=by rw[hp,List.length_take];omega
         have hdl0:d.length=out.length-t:=by rw[hd9,List.length_drop]
         have Y2:=aX hpl;rw[<-hp]at jW;rw[<-hd9]at zC;have hpb:p.length<=1000000:=by omega
         have hdb:d.length<=1000000:=by omega
         clear hp hd9 hpl hdl0
         go_wp2_with (at_builtin;refine Jz rfl _ _ rfl W3.heap.size _ [] p va t vc rfl rfl ⟨rfl,Or.inl ⟨rfl,rfl⟩⟩ jW.out (by simp) (by omega) (Nat.le_refl _) ?_)
         intro v4 w4 hown4 nJ;have uz:Hid (w4.ownsRow W3.heap.size 37 1 v4 p.length ((iU p).map (Value.int .u64))):=by show World.ownsRow _ _ _ _ _ _ _;simpa [iU] using hown4
         have HB4:Hid (Below W3.heap.size W3 w4):=(Below.refl _ _).grown nJ (Nat.le_refl _) (fun q e=>by simp[Value.ownBlock]at e)
         have J7:w4.cell? (aG a k)=some (.int .u64 x):=qf DL HB4.out;clear hown4 nJ DL hhd jW;obtain⟨QO,QS,rfl⟩:=PX uz.out;have vY:Hid ((w4.alloc (.cells #[.int .u64 x] 37)).ownsRow W3.heap.size 37 1 (.slice QO p.length QS) p.length ((iU p).map (Value.int .u64))):=World.ownsRow.alloc uz.out _;have rE:Hid ((w4.alloc (.cells #[.int .u64 x] 37)).cell? ⟨w4.heap.size,0,none⟩=some (.int .u64 x)):=qc (dO w4 _).1 0;have rF:Hid (Below W3.heap.size W3 (w4.alloc (.cells #[.int .u64 x] 37))):=HB4.out.alloc HB4.out.size _;have hszA:W3.heap.size<=(w4.alloc (.cells #[.int .u64 x] 37)).heap.size:=rF.out.size;have o8:Hid (∀q,(Value.slice QO p.length QS).ownBlock=some q->W3.heap.size<=q):=vO uz.out;have htk:p.length<=1000000:=hpb;clear uz HB4
         go_wp2_with (at_builtin;refine Uw rfl _ _ rfl W3.heap.size _ p.length (iU p) rfl vY.out w4.heap.size (x:Int) rfl rE.out (by omega) hszA ?_)
         intro v5 w5 hown5 hgr5;have Gl:Hid (w5.ownsRow W3.heap.size 37 1 v5 (p++[x]).length ((iU (p++[x])).map (Value.int .u64))):=by show World.ownsRow _ _ _ _ _ _ _;simpa [iU] using hown5
         have xg:Hid (Below W3.heap.size W3 w5):=rF.out.grown hgr5 hszA (fun q e=>o8.out q e)
         have QT:Hid (fH w5 a3 (out.length-t) (vc-t) d):=zC.out.up xg.out;have hsz5:W3.heap.size<=w5.heap.size:=xg.out.size;have hdl:d.length<=10000000:=by omega
         have J8:(p++[x]).length<=10000000:=by rw[List.length_append,List.length_singleton];omega
         have DN:Hid (∀q,v5.ownBlock=some q->W3.heap.size<=q):=vO Gl.out;clear hown5 hgr5 vY rE rF hszA o8 zC J7
         go_wp2_with (at_builtin;refine Jz rfl _ _ rfl W3.heap.size _ (p++[x]) d a3 (out.length-t) (vc-t) rfl rfl Gl.out QT.out J8 hdl hsz5 ?_)
         intro v6 w6 hown6 tH;have QU:Hid (p++[x]++d=out.take t++x::out.drop t):=by show _=_;rw[HP.out,yP.out];simp
         have QV:Hid (w6.ownsRow w.heap.size 37 1 v6 (out.take t++x::out.drop t).length ((iU (out.take t++x::out.drop t)).map (Value.int .u64))):=by
          show World.ownsRow _ _ _ _ _ _ _
          rw[<-QU.out];exact q6z (by simpa [iU] using hown6) HB3.out.size
         have DR:Hid (Below w.heap.size w w6):=qe HB3.out (xg.out.grown tH hsz5 (fun q e=>DN.out q e))
         have Fh:Hid (lK l (k+1) (out.take t++x::out.drop t)):=by
          show lK _ _ _
          rw[<-Iz.out];exact MX.out.put hkl Qu.out ht (by rw[Iz.out];exact BN.out) (by rw[Iz.out];exact HPL.out)
         have Y3:Hid ((out.take t++x::out.drop t).length<=k+1):=by
          show _<=_
          have:=HOL.out
          rw[List.length_append,List.length_cons,List.length_take,List.length_drop];omega
         clear hown6 tH Gl xg QT DN HB3 QU;go_wp2;refine⟨⟨k+1,_,by omega,by go_num,QV,Fh,Y3,DR⟩,?_⟩
         simp[intOf];omega
  ·have hkn:k=n:=by omega
   have HEN:Hid (Q (.returned (.slice va out.length vc)) W1):=HQ.out _ _ (by
    have hl:out=aJ l:=lK.fin (by rw[pX.out,<-hkn];exact MX.out)
    obtain⟨Jw,Jy,hv2,iY,hf2⟩:=ly HO.out;injection hv2 with hv2 _ hv3;subst hv2 hv3;rw[<-hl];exact⟨va,vc,rfl,oL,HW.out,hf2⟩)
   clear oL HO MX HOL HW;go_wp2;exact HEN.out
theorem qbX(a:Option Addr)(n c:Nat)(l:List Nat)(b:Option Addr)(m d:Nat)(k:List Nat)(w:World)(hA:fH w a n c l)(hB:fH w b m d k)(sL:Sm l)(sK:Sm k)(hn:n+m<=1024):
  Calls prog 63 #[.slice a n c,.slice b m d] w (Ib 0 (aJ (l++k)) w):=by
 have hl:=hA.len;have hk:=hB.len;have hw1:IntKind.i64.wrap ((n:Int)+(m:Int))=(n:Int)+(m:Int):=by rw[IntKind.wrap_i64];omega
 have hg1:¬((1024:Int)<(n:Int)+(m:Int)):=by omega
 have HA:=aX hA;have HB:=aX hB;have rQ:Hid (n=l.length/\m=k.length):=⟨hl,hk⟩;have IB:Hid (Sm (l++k)):=fun x hx=>(List.mem_append.1 hx).elim (sL x) (sK x)
 have hb1:l.length<=10000000:=by omega
 have hb2:k.length<=10000000:=by omega
 obtain⟨Q,hQ⟩:∃Q:Ending->World->Prop,Q=Ib 0 (aJ (l++k)) w:=⟨_,rfl⟩
 have HQ:Hid (∀e w',Ib 0 (aJ (l++k)) w e w'->Q e w'):=fun e w' h=>by rw[hQ];exact h
 rw[<-hQ];clear hA hB sL sK hQ hl hk;go_enter func63,ntmps63
 go_wp2_with (at_builtin;refine Jz rfl _ _ rfl w.heap.size _ [] l a n c rfl rfl ⟨rfl,Or.inl ⟨rfl,rfl⟩⟩ HA.out (by simp) hb1 (Nat.le_refl _) ?_)
 intro v1 w1 hown1 QW;have uw:Hid (w1.ownsRow w.heap.size 37 1 v1 l.length ((iU l).map (Value.int .u64))):=by show World.ownsRow _ _ _ _ _ _ _;simpa [iU] using hown1
 have HB1:Hid (Below w.heap.size w w1):=(Below.refl _ _).grown QW (Nat.le_refl _) (fun q e=>by simp[Value.ownBlock]at e)
 have Ez:Hid (fH w1 b m d k):=HB.out.up HB1.out;have hs1:w.heap.size<=w1.heap.size:=HB1.out.size;have uq:Hid (∀q,v1.ownBlock=some q->w.heap.size<=q):=vO uw.out;clear hown1 QW
 go_wp2_with (at_builtin;refine Jz rfl _ _ rfl w.heap.size _ l k b m d rfl rfl uw.out Ez.out hb1 hb2 hs1 ?_)
 intro v2 w2 hown2 QX;have l9:Hid (w2.ownsRow w.heap.size 37 1 v2 (l++k).length ((iU (l++k)).map (Value.int .u64))):=by show World.ownsRow _ _ _ _ _ _ _;simpa [iU] using hown2
 have HB2:Hid (Below w.heap.size w w2):=HB1.out.grown QX hs1 (fun q e=>uq.out q e)
 clear hown2 QX uw HB1 Ez hs1 uq;obtain⟨va,vc,rfl,hU⟩:=MC l9.out;have hlen:(l++k).length<=1000000:=by rw[List.length_append];have:=rQ.out;omega
 have jl:=pT va (l++k).length vc (l++k) w2 hU IB.out hlen;have HJ:Hid (∀e w',sJ (aJ (l++k)) w2 e w'->∃a3 c3,e=.returned (.slice a3 (aJ (l++k)).length c3)/\Q (.returned (.tuple #[.slice a3 (aJ (l++k)).length c3,.int .i64 0])) w'):=fun e w' ⟨a3,c3,he,h1,h2,h3⟩=>⟨a3,c3,he,HQ.out _ _ ⟨a3,c3,rfl,h1,qe HB2.out h2,fun j hj=>Nat.le_trans HB2.out.size (h3 j hj)⟩⟩
 clear hU hlen l9;generalize (l++k).length=L at *;generalize aJ (l++k)=R at *
 go_wp2_with fail
 refine jl.mono ?_
 intro e w3 hq;obtain⟨a3,c3,rfl,hq2⟩:=HJ.out e w3 hq;have HE:Hid _:=hq2;clear jl hq hq2 HJ;go_wp2
 first|exact HE.out|(go_ret2;exact HE.out)
theorem qdD(a:Option Addr)(n c:Nat)(b:Option Addr)(m d:Nat)(w:World)(hn1:n<=1000000)(hn2:m<=1000000)(hn:1024<n+m):
  Calls prog 63 #[.slice a n c,.slice b m d] w (LE 9 [] w):=by
 have hw1:IntKind.i64.wrap ((n:Int)+(m:Int))=(n:Int)+(m:Int):=by rw[IntKind.wrap_i64];omega
 have hg1:(1024:Int)<(n:Int)+(m:Int):=by omega
 go_enter func63,ntmps63
 go_wp2;go_ret2
 exact⟨none,0,rfl,Et,Below.refl _ _⟩
theorem qci{w:World}{ops:Array Oper}{o:Oper}{a:Act}{K:Act->World->Prop}{Q:Exit->Act->World->Prop}{E:Prop}(hw:Region.wanted o (yielded ops a.tmps)=true)(s x:Operand)
  (ho:o.op=.call { callee:=.builtin .append,args:=#[s,x],argTypes:=#[36,36] }) (base:Nat)
  (v:Value) (n:Nat) (zs:List Int) (z:Int) (g:Nat) (hs:a.eval s=v) (hx:a.eval x=.slice (some ⟨g,0,none⟩) 1 1) (hown:w.ownsRow base 37 1 v n (zs.map (Value.int .u64)))
  (hB:w.heap[g]? =some (.cells #[.int .u64 z] 37 (0,0))) (hn:n<=1000000) (hbase:base<=w.heap.size)
  (h:∀v' w',w'.ownsRow base 37 1 v' (n+1) ((zs++[z]).map (Value.int .u64))->w.grownBy w' v.ownBlock->K (a.put o.dst v') w'):
  if Region.wanted o (yielded ops a.tmps)=true then Oper.wp prog o a w K Q else E:=by
 rw[if_pos hw];obtain⟨i,hi,hz0,hz1,hz2⟩:=info_parts L9
 obtain⟨v',w',hr,h2,h3,_,_⟩:=run_append_own_at (P:=prog) w base 36 o.type 37 i _ 1 8 underlying36 hi hz0 hz1 hz2 rfl (by decide) v n _ hown ⟨g,0,none⟩ 1 1 [.int .u64 z] rfl (fun j u hj=>by
  rw[qi,Nat.zero_add,qc hB]
  match j with
  | 0=>simpa using hj
  |j+1=>simp at hj) (fun u hu=>by simp at hu;subst hu;rfl) (by unfold maxLen;omega) (by omega) hbase
 unfold Oper.wp execOp;simp only[ho,resolve,invoke,builtin,Sem.run_bind,Sem.run_pure,Result.andThen_ok,List.map_toArray,List.map_cons,List.map_nil,hs,hx,hr]
 exact h v' w' (by rw[List.map_append];exact h2) h3
theorem qaT (a : Option Addr) (n c : Nat) (l : List Nat) (b : Option Addr) (m d : Nat) (k : List Nat) (w : World) (hA : fH w a n c l) (hB : fH w b m d k) (sL : Sm l) (sK : Sm k) (hn : n * m ≤ 1024) (hn1 : n ≤ 2000) (hm1 : m ≤ 2000):
    Calls prog 58 #[.slice a n c, .slice b m d] w (Ib 0 (aJ (dI l k)) w) := by
  have hl := hA.len
  have hk := hB.len
  have pZ : Hid (0 < n → ¬(1024 : Int) / (n : Int) < (m : Int)) := fun h0 h1=> by
    have h2 : 1024 / n < m := Int.ofNat_lt.1 h1
    have h3 := (Nat.div_lt_iff_lt_mul h0).1 h2
    rw [Nat.mul_comm] at h3; omega
  have rf : Hid (0 < n → IntKind.i64.wrap ((1024 : Int).tdiv (n : Int)) = ((1024 / n : Nat) : Int)) := fun h0=> by
    have h1 : (1024 : Int).tdiv (n : Int) = ((1024 / n : Nat) : Int) := rfl
    have h2 : 1024 / n ≤ 1024 := Nat.div_le_self _ _
    rw [h1, IntKind.wrap_i64]
    generalize 1024 / n = q at *
    omega
  have HL : Hid (∀ w1 v, w1.ownsRow w.heap.size 37 1 v (dI l k).length ((iU (dI l k)).map (Value.int .u64)) → ∃ q C, v = .slice q (dI l k).length C ∧ Calls prog 86 #[.slice q (dI l k).length C] w1 (sJ (aJ (dI l k)) w1)) := fun w1 v ho=> by
    obtain ⟨q, C, rfl, hU⟩ := MC ho
    exact ⟨q, C, rfl, pT q _ C _ w1 hU (WW sL sK) (by rw [Oo, ← hl, ← hk]; omega)⟩
  have uh : Hid (dI (l.take n) k = dI l k) := by show _ = _; rw [List.take_of_length_le (by omega)]
  have HN : Hid (∀ i, i < n → dI (l.take (i + 1)) k = dI (l.take i) k ++ (k.take m).map fun y=> l.getD i 0 ||| y) := fun i hi=> by
    rw [eA (by omega), List.take_of_length_le (l := k) (by omega)]
  have HM : Hid (∀ x j, j < m → ((k.take (j + 1)).map fun y=> x ||| y) = ((k.take j).map fun y=> x ||| y) ++ [x ||| k.getD j 0]) := fun x j hj=> eB (by omega)
  have HW : Hid (∀ i j x, i < n → j ≤ m → (dI (l.take i) k ++ (k.take j).map fun y=> x ||| y).length ≤ 1024) := fun i j x hi hj=> by
    have := lR l k i j x (by omega) (by omega)
    rw [← hl, ← hk] at this
    omega
  have rE : Hid (∀ i, i < n → ∀ wr, Below w.heap.size w wr → wr.cell? (aG a i) = some (.int .u64 ((l.getD i 0 : Nat) : Int))) := fun i hi wr hb=> Uy (hA.up hb) hi
  have AU : Hid (∀ i, i < m → ∀ wr, Below w.heap.size w wr → wr.cell? (aG b i) = some (.int .u64 ((k.getD i 0 : Nat) : Int))) := fun i hi wr hb=> Uy (hB.up hb) hi
  have HO : Hid (∀ i j, i < n → j < m → bits .or .u64 ((l.getD i 0 : Nat) : Int) ((k.getD j 0 : Nat) : Int) = ((l.getD i 0 ||| k.getD j 0 : Nat) : Int)) := fun i j hi hj=> u64_or_nat _ _ (Uz sL (by omega)) (Uz sK (by omega))
  have zq := fun (i : Nat) (w : World) (h : i < n)=> hA.idx n i w h bZ
  have vZ := fun (i : Nat) (w : World) (h : i < m)=> hB.idx m i w h bZ
  clear hA hB sL sK hl hk hn
  go_enter func58, ntmps58
  rcases Nat.eq_zero_or_pos n with h0 | h0
  all_goals
    first
      | (have hz1 : decide ((0 : Int) < (n : Int)) = true := decide_eq_true (by omega)
         have hz2 : ¬((n : Int) = 0) := by omega
         have hz3 := rf.out h0
         have JQ := pZ.out h0
         have hz5 : decide ((1024 : Int) / (n : Int) < (m : Int)) = false := decide_eq_false JQ)
      | (have hz1 : decide ((0 : Int) < (n : Int)) = false := decide_eq_false (by omega)
         have hz6 : ¬0 < n := by omega
         have hz7 : decide (0 < n) = false := decide_eq_false hz6)
    clear h0 rf pZ
    go_wp2
    go_loopw [6, 7] (fun v i wr=> ∃ p : Nat, p ≤ n ∧ i = .int .i64 (p : Int) ∧ Hid (wr.ownsRow w.heap.size 37 1 v (dI (l.take p) k).length ((iU (dI (l.take p) k)).map (Value.int .u64))) ∧ Hid (Below w.heap.size w wr)) (fun _ i _=> n-(intOf i).toNat)
    case atStart=> exact ⟨0, Nat.zero_le _, rfl, ⟨rfl, Or.inl ⟨rfl, rfl⟩⟩, Below.refl _ _⟩
    case round=>
      obtain ⟨p, hp, rfl, HV, HB⟩ := hrel
      by_cases hlt : p < n
      · have hc := rE.out p hlt wr HB.out
        have hx := fun w'=> zq p w' hlt
        have PZ : Hid _ := HN.out p hlt
        have JB : Hid (∀ j x, j ≤ m → (dI (l.take p) k ++ (k.take j).map fun y=> x ||| y).length ≤ 1024) := fun j x hj=> HW.out p j x hlt hj
        have JC : Hid (∀ j, j < m → bits .or .u64 ((l.getD p 0 : Nat) : Int) ((k.getD j 0 : Nat) : Int) = ((l.getD p 0 ||| k.getD j 0 : Nat) : Int)) := fun j hj=> HO.out p j hlt hj
        have JD : Hid (∀ j, j < m → ((k.take (j + 1)).map fun y=> l.getD p 0 ||| y) = ((k.take j).map fun y=> l.getD p 0 ||| y) ++ [l.getD p 0 ||| k.getD j 0]) := fun j hj=> HM.out _ j hj
        have rh : Hid (∀ wr, Below w.heap.size w wr → wr.cell? (aG a p) = some (.int .u64 ((l.getD p 0 : Nat) : Int))) := fun wr hb=> rE.out p hlt wr hb
        clear zq rE HN HW HO HM HL uh
        generalize l.getD p 0 = x at *
        generalize hU : dI (l.take p) k = U at *
        clear hU
        clear hc
        go_wp2
        go_loopw [6, 8] (fun v i w3=> ∃ j : Nat, j ≤ m ∧ i = .int .i64 (j : Int) ∧ Hid (w3.ownsRow w.heap.size 37 1 v (U ++ (k.take j).map fun y=> x ||| y).length ((iU (U ++ (k.take j).map fun y=> x ||| y)).map (Value.int .u64))) ∧ Hid (Below w.heap.size w w3)) (fun _ i _=> m-(intOf i).toNat)
        case atStart=> exact ⟨0, Nat.zero_le _, rfl, by show World.ownsRow _ _ _ _ _ _ _; simpa using HV.out, HB⟩
        case round=>
          clear HV HB
          obtain ⟨j, hj, rfl, HV, HB⟩ := hrel
          by_cases sQ : j < m
          · have DK : Hid (Below w.heap.size w wr.drew) := HB.out.drew
            have hc := AU.out j sQ wr HB.out
            have hcx : wr.cell? (aG a p) = some (.int .u64 (x : Int)) := rh.out _ HB.out
            have rj : Hid _ := qC HV.out ((Below.refl _ wr).drew)
            have hx2 := fun w'=> vZ j w' sQ
            have hor := JC.out j sQ
            have P5 : Hid _ := JD.out j sQ
            have hbd := JB.out j x (by omega)
            obtain ⟨va, vc, rfl⟩ := PX HV.out
            clear JB JC JD AU vZ PZ
            generalize k.getD j 0 = y at *
            generalize hR : (U ++ (k.take j).map fun y=> x ||| y) = R at *
            have UA : Hid (U ++ (k.take (j + 1)).map (fun y=> x ||| y) = R ++ [x ||| y]) := by show _ = _; rw [P5.out, ← List.append_assoc, hR]
            clear P5 hR
            generalize x ||| y = z at *
            have vY : Hid ((wr.drew.alloc (.cells #[.int .u64 (z : Int)] 37)).ownsRow w.heap.size 37 1 (.slice va R.length vc) R.length ((iU R).map (Value.int .u64))) := World.ownsRow.alloc rj.out _
            have rm : (wr.drew.alloc (.cells #[.int .u64 (z : Int)] 37)).heap[wr.drew.heap.size]? =some (.cells #[.int .u64 (z : Int)] 37 (0, 0)) := (dO wr.drew _).1
            have rq := vY.out
            have rF : Hid (Below w.heap.size w (wr.drew.alloc (.cells #[.int .u64 (z : Int)] 37))) := DK.out.alloc DK.out.size _
            have hszA : w.heap.size ≤ (wr.drew.alloc (.cells #[.int .u64 (z : Int)] 37)).heap.size := rF.out.size
            have o8 : Hid (∀ q, (Value.slice va R.length vc).ownBlock = some q → w.heap.size ≤ q) := vO HV.out
            have iy : Hid (∀ w7 v7, w7.ownsRow w.heap.size 37 1 v7 (R.length + 1) ((iU R ++ [(z : Int)]).map (Value.int .u64)) → (wr.drew.alloc (.cells #[.int .u64 (z : Int)] 37)).grownBy w7 (Value.slice va R.length vc).ownBlock → w7.ownsRow w.heap.size 37 1 v7 (U ++ (k.take (j + 1)).map fun y=> x ||| y).length ((iU (U ++ (k.take (j + 1)).map fun y=> x ||| y)).map (Value.int .u64)) ∧ Below w.heap.size w w7) := fun w7 v7 ho hg=> ⟨by rw [UA.out, List.length_append, Ux]; exact ho, rF.out.grown hg hszA (fun q e=> o8.out q e)⟩
            clear HV HB rj DK rh vY rF o8 UA
            go_upto_region 20 with fail
            go_region_law ((refine qci rfl _ _ rfl w.heap.size (.slice va R.length vc) R.length (iU R) (z : Int) wr.drew.heap.size rfl rfl rq rm (by omega) hszA ?_; intro v7 w7 jC mD; have m7 := iy.out w7 v7 jC mD; have Yj : Hid _ := m7.1; have FM : Hid _ := m7.2; clear m7))
            all_goals
              clear jC mD rq rm hszA iy
              go_wp2
              go_roundw
              case rel=> exact ⟨j + 1, by omega, by go_num, Yj, FM⟩
              case measure=> simp [intOf]; omega
          · obtain rfl : j = m := by omega
            clear JB JC JD AU vZ
            go_wp2
            go_roundw
            case rel=>
              refine ⟨p + 1, by omega, by go_num, ?_, HB⟩
              show World.ownsRow _ _ _ _ _ _ _
              rw [PZ.out]
              exact HV.out
            case measure=> simp [intOf]; omega
      · obtain rfl : p = n := by omega
        have jK : Hid _ := HV.out
        rw [uh.out] at jK
        obtain ⟨q, C, rfl, hle⟩ := HL.out wr _ jK.out
        clear HV jK HN HM HW rE AU HO HL uh zq vZ
        generalize aJ (dI l k) = r at *
        generalize (dI l k).length = N at *
        go_wp2_with fail
        refine hle.mono ?_
        rintro e w2 ⟨q2, C2, rfl, iY, hb2, hf2⟩
        have HU : Hid _ := iY
        have HB2 : Hid (Below w.heap.size w w2) := qe HB.out hb2
        have AP : Hid (∀ k, k < r.length → w.heap.size ≤ (aG q2 k).block) := fun k hk=> Nat.le_trans HB.out.size (hf2 k hk)
        clear iY hb2 hle hf2
        go_wp2
        go_ret2
        exact ⟨q2, C2, rfl, HU.out, HB2.out, AP.out⟩
theorem qbU(a:Option Addr)(n c:Nat)(b:Option Addr)(m d:Nat)(w:World)(hn1:n<=2000)(_hm1:m<=2000)(hn:1024<n*m):
  Calls prog 58 #[.slice a n c,.slice b m d] w (LE 9 [] w):=by
 have h0:0<n:=by
  rcases Nat.eq_zero_or_pos n with h|h
  ·rw[h,Nat.zero_mul]at hn;omega
  ·exact h
 have hz2:¬((n:Int)=0):=by omega
 have hz3:IntKind.i64.wrap ((1024:Int).tdiv (n:Int))=((1024 / n:Nat):Int):=by
  have h1:(1024:Int).tdiv (n:Int)=((1024 / n:Nat):Int):=rfl;have h2:1024 / n<=1024:=Nat.div_le_self _ _;rw[h1,IntKind.wrap_i64];generalize 1024 / n=q at *
  omega
 have JQ:(1024:Int) / (n:Int)<(m:Int):=by
  have h2:1024 / n<m:=(Nat.div_lt_iff_lt_mul h0).2 (by rw[Nat.mul_comm];exact hn)
  exact Int.ofNat_lt.2 h2
 clear hn;go_enter func58,ntmps58
 go_wp2;go_ret2
 exact⟨none,0,rfl,Et,Below.refl _ _⟩
def dY(p:Nat):Value:=.pointer (some ⟨p,0,none⟩)
def QY(w:World)(F:Nat->Prop)(rows:List Value)(M:Mt):Prop:=∀(i:Nat)(f:List Tk),M[i]? =some f->∃a n c,rows[i]? =some (.slice a n c)/\bG w a n c f/\(0<n->∀x,a=some x->¬F x.block)
structure xk(w:World)(F:Nat->Prop)(p:Nat)(M:Mt)(er:Nat)(vb vm:Value)(rows:List Value):Prop where
 blk:w.heap[p]? =some (.cells #[vm,vb,.int .i64 er] 69 (0,0))
 row:w.ownsRow (p+1) 22 1 vm M.length rows
 foot:∀k,F k↔k=p\/vm.ownBlock=some k
 met:QY w F rows M
 few:M.length<=64
def RP(w:World)(F:Nat->Prop)(p:Nat)(M:Mt)(er:Nat)(vb:Value):Prop:=∃vm rows,xk w F p M er vb vm rows
theorem Fr.oh{w0:World}(h:Fr w0 w F F'){p:Addr}(v:Value)(hp:F p.block\/w0.heap.size<=p.block):Fr w0 (w.setCell p v) F F' :=
 ⟨h.os,h.tape,h.output,by simpa using h.size,fun k hk hf=>(Below.heap_setCell _ _ _ _ (fun e=>by
  rcases hp with q|q
  ·exact hf (e ▸ q)
  ·omega)).trans (h.keep k hk hf),h.foot⟩
theorem xk.up{w w':World}{F:Nat->Prop}{p:Nat}{M:Mt}{er:Nat}{vb vm:Value}{rows:List Value}(h:xk w F p M er vb vm rows)(hb:Below w.heap.size w w'):xk w' F p M er vb vm rows :=
 ⟨(hb.block p (lC h.blk).1).trans h.blk,qC h.row hb,h.foot,fun i f hf=>by
  obtain⟨a,n,c,h1,h2,h3⟩:=h.met i f hf;exact⟨a,n,c,h1,h2.up hb,h3⟩,h.few⟩
theorem RP.up(h:RP w F p M er vb)(hb:Below w.heap.size w w'):RP w' F p M er vb:=by
 obtain⟨vm,rows,h⟩:=h;exact⟨vm,rows,h.up hb⟩
theorem xk.Bd(h:xk w F p M er vb vm rows)(er':Nat):xk (w.setCell ⟨p,2,none⟩ (.int .i64 er')) F p M er' vb vm rows:=by
 have hp:F p:=(h.foot p).2 (.inl rfl);refine⟨?_,WI h.row (by dsimp only;omega) _,h.foot,fun i f hf=>?_,h.few⟩
 ·rw[heap_setCell_same w p 2 _ _ _ h.blk];rfl
 ·obtain⟨a,n,c,h1,h2,h3⟩:=h.met i f hf
  exact⟨a,n,c,h1,((Fr.au (Below.refl _ _)).oh (F:=F) _ (.inl hp)).tks h2 h3,h3⟩
theorem xk.kP(h:xk w F p M er vb vm rows):w.cell? ⟨p,2,none⟩=some (.int .i64 er)/\w.frozen? ⟨p,2,none⟩=false/\w.cell? ⟨p,0,none⟩=some vm/\w.frozen? ⟨p,0,none⟩=false :=
 ⟨qc h.blk 2,frozen_of_row w p 2 _ _ h.blk,qc h.blk 0,frozen_of_row w p 0 _ _ h.blk⟩
structure eP(w:World)(F:Nat->Prop)(a:Option Addr)(c:Nat)(L:List Nat):Prop where
 sl:fH w a L.length c L
 off:∀k,k<L.length->¬F (aG a k).block
 sm:Sm L
 few:L.length<=1024
theorem eP.fr{L:List Nat}(h:eP w F a c L)(f:Fr w w' F F'):eP w' F' a c L :=
 ⟨f.lq h.sl h.off,fun k hk=>f.out (h.off k hk) (h.sl.blk k hk),h.sm,h.few⟩
theorem eP.nil:eP w F none 0 []:=⟨Et,fun k hk=>by simp at hk,fun x hx=>by simp at hx,by simp⟩
structure lN(w0 w:World)(F:Nat->Prop)(a:Option Addr)(c:Nat)(L:List Nat):Prop extends eP w F a c L where
 nw:∀k,k<L.length->w0.heap.size<=(aG a k).block
instance {w0 w:World}{F:Nat->Prop}{a:Option Addr}{c:Nat}{L:List Nat}:CoeOut (lN w0 w F a c L) (eP w F a c L):=⟨fun h=>h.toeP⟩
theorem lN.nil{w0 w:World}{F:Nat->Prop}:lN w0 w F none 0 []:=⟨eP.nil,fun k hk=>by simp at hk⟩
def dX {α : Type} (er:Nat) (r:Option α):Option α := if er=0 then r else none
def fG(r:Option (List Nat×Mt))(p:Nat)(vb:Value)(F:Nat->Prop)(M:Mt)(w:World)(e:Ending)(w':World):Prop :=
 ∃F' M' er L a c,e=.returned (.slice a L.length c)/\Fr w w' F F'/\RP w' F' p M' er vb/\lN w w' F' a c L/\M <+: M'/\((er=0/\r=some (L,M'))\/(er=9/\r=none))
theorem fG.trans{r:Option (List Nat×Mt)}{F2:Nat->Prop}{M2:Mt}{w2:World}{e:Ending}(h:fG r p vb F2 M2 w2 e w')(f:Fr w w2 F F2)(hm:M <+: M2):fG r p vb F M w e w':=by
 obtain⟨F',M',er,L,a,c,h1,h2,h3,h4,h5,h6⟩:=h;exact⟨F',M',er,L,a,c,h1,f.trans h2,h3,⟨h4.toeP,fun k hk=>Nat.le_trans f.size (h4.nw k hk)⟩,hm.trans h5,h6⟩
theorem qy{jq:Nat}{X:Option (List Nat×Mt)}{L1:List Nat}{M1:Mt}(h:(jq=0/\dX er X=some (L1,M1))\/(jq=9/\dX er X=none))(f:List Nat->Mt->Rt):dX er (bindM X f)=dX jq (f L1 M1):=by
 unfold dX at *;rcases h with⟨rfl,h⟩|⟨rfl,h⟩
 ·split at h
  ·rename_i e
   rw[if_pos e,h];rfl
  ·cases h
 ·split at h
  ·rename_i e
   rw[if_pos e,h];rfl
  ·rename_i e
   rw[if_neg e];rfl
theorem qV(p:Nat)(vb:Value)(F:Nat->Prop)(M:Mt)(er:Nat)(a:Option Addr)(c:Nat)(l:List Nat)(b:Option Addr)(d:Nat)(k:List Nat)(w:World)(hP:RP w F p M er vb)(he:er=0\/er=9)(hA:eP w F a c l)(hB:eP w F b d k):
  Calls prog 34 #[dY p,.slice a l.length c,.slice b k.length d] w (fG (dX er (bF true l k M)) p vb F M w):=by
 obtain⟨vm,rows,hR⟩:=hP;obtain⟨k0,k1,_,_⟩:=hR.kP;have hp:F p:=(hR.foot p).2 (.inl rfl);have HR:Hid _:=hR;obtain⟨Q,hQ⟩:∃Q:Ending->World->Prop,Q=fG (dX er (bF true l k M)) p vb F M w:=⟨_,rfl⟩
 rw[<-hQ];rcases he with rfl|rfl
 ·have hz:w.cell? ⟨p,2,none⟩=some (.int .i64 0):=k0
  by_cases hn:l.length*k.length<=1024
  ·have jr:Calls prog 58 #[.slice a l.length c,.slice b k.length d] w (Ib 0 (aJ (dI l k)) w):=qaT a l.length c l b k.length d k w hA.sl hB.sl hA.sm hB.sm hn (by have:=hA.few;omega) (by have:=hB.few;omega)
   have HQ:Hid (∀a' c' w',fH w' a' (aJ (dI l k)).length c' (aJ (dI l k))->Below w.heap.size w w'->(∀q,q<(aJ (dI l k)).length->w.heap.size<=(aG a' q).block)->w'.cell? ⟨p,2,none⟩=some (.int .i64 0)/\w'.frozen? ⟨p,2,none⟩=false/\Q (.returned (.slice a' (aJ (dI l k)).length c')) (w'.setCell ⟨p,2,none⟩ (.int .i64 0))):=fun a' c' w' h1 h2 h3=>by
    have hR2:=hR.up h2;obtain⟨q0,q1,_,_⟩:=hR2.kP;have hf:Fr w (w'.setCell ⟨p,2,none⟩ (.int .i64 0)) F F:=(Fr.au h2).oh _ (.inl hp)
    have hlt:∀q,F q->q<w.heap.size:=fun q hq=>by
     rcases (hR.foot q).1 hq with rfl|h
     ·exact(lC hR.blk).1
     ·exact(hR.row.lt q h).2
    refine⟨q0,q1,?_⟩
    rw[hQ];refine⟨F,M,0,_,a',c',rfl,hf,⟨vm,rows,hR2.Bd 0⟩,⟨⟨?_,fun q hq h=>?_,gx (WW hA.sm hB.sm),?_⟩,h3⟩,List.prefix_refl _,.inl ⟨rfl,?_⟩⟩
    ·exact((Fr.au (F:=fun q=>q=p) (Below.refl _ _)).oh _ (.inl rfl)).lq h1 (fun q hq e=>by
      have h4:=h3 q hq;have h5:=hlt p hp
      omega)
    ·have h4:=h3 q hq
     have h5:=hlt _ h
     omega
    ·exact Nat.le_trans (Oq _) (by rw[Oo];exact hn)
    ·show (bF true l k M)=_
     unfold bF andM;rw[if_pos rfl,if_pos hn];rfl
   clear hQ hR HR hA hB k0;generalize aJ (dI l k)=R at *;unfold Ib at jr;unfold dY;go_enter func34,ntmps34
   go_wp2_with fail
   refine jr.mono ?_
   rintro e w1 ⟨a1,c1,rfl,h1,h2,h3⟩
   obtain⟨q0,q1,q2⟩:=HQ.out a1 c1 w1 h1 h2 h3;have HE:Hid _:=q2;clear q2 h1 h2 h3 HQ;go_wp2
   first|exact HE.out|(go_ret;exact HE.out)
  ·have jr:Calls prog 58 #[.slice a l.length c,.slice b k.length d] w (LE 9 [] w):=qbU a l.length c b k.length d w (by have:=hA.few;omega) (by have:=hB.few;omega) (by omega)
   have HQ:Hid (∀a' c' w',fH w' a' ([]:List Nat).length c' []->Below w.heap.size w w'->w'.cell? ⟨p,2,none⟩=some (.int .i64 0)/\w'.frozen? ⟨p,2,none⟩=false/\Q (.returned (.slice a' 0 c')) (w'.setCell ⟨p,2,none⟩ (.int .i64 9))):=fun a' c' w' h1 h2=>by
    have hR2:=hR.up h2;obtain⟨q0,q1,_,_⟩:=hR2.kP;have hf:Fr w (w'.setCell ⟨p,2,none⟩ (.int .i64 9)) F F:=(Fr.au h2).oh _ (.inl hp);refine⟨q0,q1,?_⟩
    rw[hQ];refine⟨F,M,9,[],a',c',rfl,hf,⟨vm,rows,hR2.Bd 9⟩,⟨⟨?_,fun q hq=>by simp at hq,fun x hx=>by simp at hx,by simp⟩,fun q hq=>by simp at hq⟩,List.prefix_refl _,.inr ⟨rfl,?_⟩⟩
    ·exact((Fr.au (F:=fun q=>q=p) (Below.refl _ _)).oh _ (.inl rfl)).lq h1 (fun q hq=>by simp at hq)
    ·show (bF true l k M)=_
     unfold bF andM;rw[if_pos rfl,if_neg hn];rfl
   clear hQ hR HR hA hB k0;unfold LE at jr;unfold dY;go_enter func34,ntmps34
   go_wp2_with fail
   refine jr.mono ?_
   rintro e w1 ⟨a1,c1,rfl,h1,h2⟩
   obtain⟨q0,q1,q2⟩:=HQ.out a1 c1 w1 h1 h2;have HE:Hid _:=q2;clear q2 h1 h2 HQ;go_wp2
   first|exact HE.out|(go_ret;exact HE.out)
 ·have hz:w.cell? ⟨p,2,none⟩=some (.int .i64 9):=k0
  have HE:Hid (Q (.returned (.slice none 0 0)) w):=by
   show Q _ _
   rw[hQ];exact⟨F,M,9,[],none,0,rfl,Fr.au (Below.refl _ _),⟨vm,rows,hR⟩,lN.nil,List.prefix_refl _,.inr ⟨rfl,rfl⟩⟩
  clear hQ hR HR hA hB k0;unfold dY;go_enter func34,ntmps34
  go_wp2
  first|exact HE.out|(go_ret;exact HE.out)
theorem q11(p:Nat)(vb:Value)(F:Nat->Prop)(M:Mt)(er:Nat)(a:Option Addr)(c:Nat)(l:List Nat)(b:Option Addr)(d:Nat)(k:List Nat)(w:World)(hP:RP w F p M er vb)(he:er=0\/er=9)(hA:eP w F a c l)(hB:eP w F b d k):
  Calls prog 37 #[dY p,.slice a l.length c,.slice b k.length d] w (fG (dX er (bF false l k M)) p vb F M w):=by
 obtain⟨vm,rows,hR⟩:=hP;obtain⟨k0,k1,_,_⟩:=hR.kP;have hp:F p:=(hR.foot p).2 (.inl rfl);have HR:Hid _:=hR;obtain⟨Q,hQ⟩:∃Q:Ending->World->Prop,Q=fG (dX er (bF false l k M)) p vb F M w:=⟨_,rfl⟩
 rw[<-hQ];rcases he with rfl|rfl
 ·have hz:w.cell? ⟨p,2,none⟩=some (.int .i64 0):=k0
  by_cases hn:l.length+k.length<=1024
  ·have jr:Calls prog 63 #[.slice a l.length c,.slice b k.length d] w (Ib 0 (aJ (l++k)) w):=qbX a l.length c l b k.length d k w hA.sl hB.sl hA.sm hB.sm hn
   have HQ:Hid (∀a' c' w',fH w' a' (aJ (l++k)).length c' (aJ (l++k))->Below w.heap.size w w'->(∀q,q<(aJ (l++k)).length->w.heap.size<=(aG a' q).block)->w'.cell? ⟨p,2,none⟩=some (.int .i64 0)/\w'.frozen? ⟨p,2,none⟩=false/\Q (.returned (.slice a' (aJ (l++k)).length c')) (w'.setCell ⟨p,2,none⟩ (.int .i64 0))):=fun a' c' w' h1 h2 h3=>by
    have hR2:=hR.up h2;obtain⟨q0,q1,_,_⟩:=hR2.kP;have hf:Fr w (w'.setCell ⟨p,2,none⟩ (.int .i64 0)) F F:=(Fr.au h2).oh _ (.inl hp)
    have hlt:∀q,F q->q<w.heap.size:=fun q hq=>by
     rcases (hR.foot q).1 hq with rfl|h
     ·exact(lC hR.blk).1
     ·exact(hR.row.lt q h).2
    refine⟨q0,q1,?_⟩
    rw[hQ];refine⟨F,M,0,_,a',c',rfl,hf,⟨vm,rows,hR2.Bd 0⟩,⟨⟨?_,fun q hq h=>?_,gx (gA hA.sm hB.sm),?_⟩,h3⟩,List.prefix_refl _,.inl ⟨rfl,?_⟩⟩
    ·exact((Fr.au (F:=fun q=>q=p) (Below.refl _ _)).oh _ (.inl rfl)).lq h1 (fun q hq e=>by
      have h4:=h3 q hq;have h5:=hlt p hp
      omega)
    ·have h4:=h3 q hq
     have h5:=hlt _ h
     omega
    ·exact Nat.le_trans (Oq _) (by rw[List.length_append];exact hn)
    ·show (bF false l k M)=_
     unfold bF orM;rw[if_neg (by decide),if_pos hn];rfl
   clear hQ hR HR hA hB k0;generalize aJ (l++k)=R at *;unfold Ib at jr;unfold dY;go_enter func37,ntmps37
   go_wp2_with fail
   refine jr.mono ?_
   rintro e w1 ⟨a1,c1,rfl,h1,h2,h3⟩
   obtain⟨q0,q1,q2⟩:=HQ.out a1 c1 w1 h1 h2 h3;have HE:Hid _:=q2;clear q2 h1 h2 h3 HQ;go_wp2
   first|exact HE.out|(go_ret;exact HE.out)
  ·have jr:Calls prog 63 #[.slice a l.length c,.slice b k.length d] w (LE 9 [] w):=qdD a l.length c b k.length d w (by have:=hA.few;omega) (by have:=hB.few;omega) (by omega)
   have HQ:Hid (∀a' c' w',fH w' a' ([]:List Nat).length c' []->Below w.heap.size w w'->w'.cell? ⟨p,2,none⟩=some (.int .i64 0)/\w'.frozen? ⟨p,2,none⟩=false/\Q (.returned (.slice a' 0 c')) (w'.setCell ⟨p,2,none⟩ (.int .i64 9))):=fun a' c' w' h1 h2=>by
    have hR2:=hR.up h2;obtain⟨q0,q1,_,_⟩:=hR2.kP;have hf:Fr w (w'.setCell ⟨p,2,none⟩ (.int .i64 9)) F F:=(Fr.au h2).oh _ (.inl hp);refine⟨q0,q1,?_⟩
    rw[hQ];refine⟨F,M,9,[],a',c',rfl,hf,⟨vm,rows,hR2.Bd 9⟩,⟨⟨?_,fun q hq=>by simp at hq,fun x hx=>by simp at hx,by simp⟩,fun q hq=>by simp at hq⟩,List.prefix_refl _,.inr ⟨rfl,?_⟩⟩
    ·exact((Fr.au (F:=fun q=>q=p) (Below.refl _ _)).oh _ (.inl rfl)).lq h1 (fun q hq=>by simp at hq)
    ·show (bF false l k M)=_
     unfold bF orM;rw[if_neg (by decide),if_neg hn];rfl
   clear hQ hR HR hA hB k0;unfold LE at jr;unfold dY;go_enter func37,ntmps37
   go_wp2_with fail
   refine jr.mono ?_
   rintro e w1 ⟨a1,c1,rfl,h1,h2⟩
   obtain⟨q0,q1,q2⟩:=HQ.out a1 c1 w1 h1 h2;have HE:Hid _:=q2;clear q2 h1 h2 HQ;go_wp2
   first|exact HE.out|(go_ret;exact HE.out)
 ·have hz:w.cell? ⟨p,2,none⟩=some (.int .i64 9):=k0
  have HE:Hid (Q (.returned (.slice none 0 0)) w):=by
   show Q _ _
   rw[hQ];exact⟨F,M,9,[],none,0,rfl,Fr.au (Below.refl _ _),⟨vm,rows,hR⟩,lN.nil,List.prefix_refl _,.inr ⟨rfl,rfl⟩⟩
  clear hQ hR HR hA hB k0;unfold dY;go_enter func37,ntmps37
  go_wp2
  first|exact HE.out|(go_ret;exact HE.out)
def RtN(r:Option (List Nat×Mt))(p:Nat)(vb:Value)(F:Nat->Prop)(M:Mt)(w:World)(e:Ending)(w':World):Prop :=
 ∃F' M' er L a c,e=.returned (.slice a L.length c)/\Fr w w' F F'/\RP w' F' p M' er vb/\eP w' F' a c L/\M <+: M'/\((er=0/\r=some (L,M'))\/(er=9/\r=none))/\∀q,q<L.length->w.heap.size<=(aG a q).block
theorem qb4(p:Nat)(vb:Value)(F:Nat->Prop)(M:Mt)(er:Nat)(a:Option Addr)(c:Nat)(l:List Nat)(b:Option Addr)(d:Nat)(k:List Nat)(w:World)(hP:RP w F p M er vb)(he:er=0\/er=9)(hA:eP w F a c l)(hB:eP w F b d k):
  Calls prog 37 #[dY p,.slice a l.length c,.slice b k.length d] w (RtN (dX er (bF false l k M)) p vb F M w) :=
 (q11 p vb F M er a c l b d k w hP he hA hB).mono fun _ _ ⟨F',M',er,L,a,c,h1,h2,h3,h4,h5,h6⟩=>⟨F',M',er,L,a,c,h1,h2,h3,h4.toeP,h5,h6,h4.nw⟩
end Go.Proofs.YtoioiellaomonaaGreatDoor
