import Derived.Laws.BitsAllLaws
import Derived.BigQuiet
import Derived.Deep.RegionLaw
import Derived.Test.YtoioiellaomonaaGreatDoorZ13
set_option maxRecDepth 100000
set_option maxHeartbeats 16000000
namespace Go.Proofs.YtoioiellaomonaaGreatDoor
open Go.RowKit Go.Maps Proofs.Tryz
variable {w w' wr:World}{v u:Value}{M k g h i n tc x op p:Nat}{bs:List Bool}{ta:Option Addr}{V:Nat->Bool}
def fM(r:Bool)(w:World)(e:Ending)(w':World):Prop:=e=.returned (.bool r)/\Below w.heap.size w w'
theorem qdQ:(prog.info? 43).map (·.size)=some 1:=by kernel_rfl
theorem qex(g:Nat)(w:World):(Instr.indexAt 23 (.slice (some ⟨g,0,none⟩) 1 1) (.int .i64 0)).run prog w=.ok (.pointer (some ⟨g,0,none⟩)) w:=by
 have:=yK (P:=prog) (T:=23) (e:=43) underlying23 qdQ (a:=some ⟨g,0,none⟩) (cap:=1) (n:=1) (by simp) 0 w (by decide)
 simpa [aG,qi] using this
theorem qo(w:World)(op p:Int):Below w.heap.size w (w.alloc (.cells #[.int .u8 op,.int .u8 p] 42)):=qd w _
theorem o5(p n k:Nat)(ta:Option Addr)(tc:Nat)(a b u:Value)(w:World):Calls prog 117 #[.agg #[.int .u8 0,.int .u8 p],.slice ta n tc,.int .i64 k,a,b,u] w (fM true w):=by
 have HB:Hid _:=qo w 0 (p:Int);unfold fM;go_enter func117,ntmps117
 go_wp2;go_ret
 exact⟨rfl,HB.out⟩
theorem o6(p n k:Nat)(ta:Option Addr)(tc:Nat)(a b u:Value)(w:World):Calls prog 117 #[.agg #[.int .u8 1,.int .u8 p],.slice ta n tc,.int .i64 k,a,b,u] w (fM false w):=by
 have HB:Hid _:=qo w 1 (p:Int);unfold fM;go_enter func117,ntmps117
 go_wp2;go_ret
 exact⟨rfl,HB.out⟩
theorem pe(p m n k:Nat)(hk:k<m)(ta:Option Addr)(tc ga:Nat)(xs:List Bool)(hl:xs.length=m)(b u:Value)(w:World)(hA:aN w ga xs):Calls prog 117 #[.agg #[.int .u8 6,.int .u8 p],.slice ta n tc,.int .i64 k,.slice (some ⟨ga,0,none⟩) m m,b,u] w (fM (!xs.getD k false) w):=by
 have HB:Hid _:=qo w 6 (p:Int);have hca:=(hA.up (qo w 6 (p:Int))).cell (i:=k) (by omega)
 have hi1:=fun w'=>qM ga m k w' hk
 clear hA hl;generalize xs.getD k false=x at *;unfold fM;go_enter func117,ntmps117
 go_wp2;go_ret
 exact⟨rfl,HB.out⟩
theorem pj(p m n k:Nat)(hk:k<m)(ta:Option Addr)(tc ga gb:Nat)(xs ys:List Bool)(hl:xs.length=m)(hl':ys.length=m)(u:Value)(w:World)(hA:aN w ga xs)(hB:aN w gb ys):Calls prog 117 #[.agg #[.int .u8 11,.int .u8 p],.slice ta n tc,.int .i64 k,.slice (some ⟨ga,0,none⟩) m m,.slice (some ⟨gb,0,none⟩) m m,u] w (fM (xs.getD k false&&ys.getD k false) w):=by
 have HB:Hid _:=qo w 11 (p:Int);have hca:=(hA.up (qo w 11 (p:Int))).cell (i:=k) (by omega)
 have hcb:=(hB.up (qo w 11 (p:Int))).cell (i:=k) (by omega)
 have hi1:=fun w'=>qM ga m k w' hk
 have hi2:=fun w'=>qM gb m k w' hk
 clear hA hB hl hl';generalize xs.getD k false=x at *;generalize ys.getD k false=y at *;unfold fM
 cases x <;>
 ·go_enter func117,ntmps117
  go_wp2_with fail
  go_wp2;go_ret
  exact⟨by cases y<;>rfl,HB.out⟩
theorem pn(p m n k:Nat)(hk:k<m)(ta:Option Addr)(tc ga gb:Nat)(xs ys:List Bool)(hl:xs.length=m)(hl':ys.length=m)(u:Value)(w:World)(hA:aN w ga xs)(hB:aN w gb ys):Calls prog 117 #[.agg #[.int .u8 12,.int .u8 p],.slice ta n tc,.int .i64 k,.slice (some ⟨ga,0,none⟩) m m,.slice (some ⟨gb,0,none⟩) m m,u] w (fM (xs.getD k false || ys.getD k false) w):=by
 have HB:Hid _:=qo w 12 (p:Int);have hca:=(hA.up (qo w 12 (p:Int))).cell (i:=k) (by omega)
 have hcb:=(hB.up (qo w 12 (p:Int))).cell (i:=k) (by omega)
 have hi1:=fun w'=>qM ga m k w' hk
 have hi2:=fun w'=>qM gb m k w' hk
 clear hA hB hl hl';generalize xs.getD k false=x at *;generalize ys.getD k false=y at *;unfold fM
 cases x <;>
 ·go_enter func117,ntmps117
  go_wp2_with fail
  go_wp2;go_ret
  exact⟨by cases y<;>rfl,HB.out⟩
theorem qc7(p m n k:Nat)(hk:k<m)(ta:Option Addr)(tc ga gb:Nat)(xs ys:List Bool)(hl:xs.length=m)(hl':ys.length=m)(u:Value)(w:World)(hA:aN w ga xs)(hB:aN w gb ys):Calls prog 117 #[.agg #[.int .u8 13,.int .u8 p],.slice ta n tc,.int .i64 k,.slice (some ⟨ga,0,none⟩) m m,.slice (some ⟨gb,0,none⟩) m m,u] w (fM (!xs.getD k false || ys.getD k false) w):=by
 have HB:Hid _:=qo w 13 (p:Int);have hca:=(hA.up (qo w 13 (p:Int))).cell (i:=k) (by omega)
 have hcb:=(hB.up (qo w 13 (p:Int))).cell (i:=k) (by omega)
 have hi1:=fun w'=>qM ga m k w' hk
 have hi2:=fun w'=>qM gb m k w' hk
 clear hA hB hl hl';generalize xs.getD k false=x at *;generalize ys.getD k false=y at *;unfold fM
 cases x <;>
 ·go_enter func117,ntmps117
  go_wp2_with fail
  go_wp2;go_ret
  exact⟨by cases y<;>rfl,HB.out⟩
theorem qc8(p m n k:Nat)(hk:k<m)(ta:Option Addr)(tc ga gb:Nat)(xs ys:List Bool)(hl:xs.length=m)(hl':ys.length=m)(u:Value)(w:World)(hA:aN w ga xs)(hB:aN w gb ys):Calls prog 117 #[.agg #[.int .u8 14,.int .u8 p],.slice ta n tc,.int .i64 k,.slice (some ⟨ga,0,none⟩) m m,.slice (some ⟨gb,0,none⟩) m m,u] w (fM (xs.getD k false==ys.getD k false) w):=by
 have HB:Hid _:=qo w 14 (p:Int);have hca:=(hA.up (qo w 14 (p:Int))).cell (i:=k) (by omega)
 have hcb:=(hB.up (qo w 14 (p:Int))).cell (i:=k) (by omega)
 have hi1:=fun w'=>qM ga m k w' hk
 have hi2:=fun w'=>qM gb m k w' hk
 clear hA hB hl hl';generalize xs.getD k false=x at *;generalize ys.getD k false=y at *;unfold fM
 cases x <;>
 ·go_enter func117,ntmps117
  go_wp2_with fail
  go_quiet (fail)
  go_wp2;go_ret
  exact⟨by cases y<;>rfl,below_drewN HB.out nq⟩
theorem pv(p n k:Nat)(hk:n<=k)(ta:Option Addr)(tc:Nat)(a b u:Value)(w:World):Calls prog 117 #[.agg #[.int .u8 2,.int .u8 p],.slice ta n tc,.int .i64 k,a,b,u] w (fM false w):=by
 have HB:Hid _:=qo w 2 (p:Int);have hd:decide (k<n)=false:=decide_eq_false (by omega)
 unfold fM;go_enter func117,ntmps117
 go_wp2_with fail
 go_quiet (fail)
 go_wp2;go_ret
 exact⟨rfl,below_drewN HB.out nq⟩
theorem qdB(x p:Nat)(hx:x<256)(hp:p<8)(w:World):Calls prog 108 #[.int .u8 x,.int .i64 p] w fun e w'=>e=.returned (.bool (x.testBit p))/\w'=w:=by
 have HD:Hid (bits BinOp.and IntKind.u8 ((x:Int) / 2 ^ p) 1=((x / 2 ^ p % 2:Nat):Int)):=by
  have e:(x:Int) / 2 ^ p=((x / 2 ^ p:Nat):Int):=by simp
  have hd:x / 2 ^ p<256:=Nat.lt_of_le_of_lt (Nat.div_le_self _ _) hx
  show _=_
  rw[e];generalize x / 2 ^ p=z at hd ⊢
  rw[u8_and _ 1 (by omega) (by omega) (by decide) (by decide),Int.toNat_natCast]
  have e1:(1:Int).toNat=1:=rfl;rw[e1,Nat.and_one_is_mod]
 have HX:Hid (x.testBit p=(((x / 2 ^ p % 2:Nat):Int)==1)):=by
  show _=_
  rw[Nat.testBit_eq_decide_div_mod_eq,Bool.eq_iff_iff,decide_eq_true_iff,beq_iff_eq]
  omega
 go_enter func108,ntmps108
 go_wp2;go_ret
 exact⟨by rw[HX.out,<-HD.out];rfl,rfl⟩
theorem qcd(p x tb:Nat)(hp:p<8)(hx:x<256)(a b u:Value)(w:World)(ht:w.cell? ⟨tb,0,none⟩=some (.int .u8 x)):Calls prog 117 #[.agg #[.int .u8 2,.int .u8 p],.slice (some ⟨tb,0,none⟩) 1 1,.int .i64 0,a,b,u] w (fM (x.testBit p) w):=by
 have HB:Hid _:=qo w 2 (p:Int);have hc:=qf ht (qo w 2 (p:Int));have hbt:=fun w'=>qdB x p hx hp w'
 have hi1:=fun w'=>qex tb w'
 have hr:=(dO w (.cells #[.int .u8 2,.int .u8 p] 42)).1;have hcp:(w.alloc (.cells #[.int .u8 2,.int .u8 p] 42)).cell? ⟨w.heap.size,1,none⟩=some (.int .u8 p):=qc hr 1;have hpw:IntKind.i64.wrap (p:Int)=(p:Int):=by rw[IntKind.wrap_i64];omega
 clear hr ht;generalize x.testBit p=r at *;unfold fM;go_enter func117,ntmps117
 go_wp2_with fail
 go_quiet ((go_at_call 108;exact Calls.quiet_of_same (hbt _)))
 go_wp2;go_ret
 exact⟨rfl,below_drewN HB.out nq⟩
theorem qdF(a b u:Value)(w:World):Calls prog 117 #[.agg #[.int .u8 4,.int .u8 0],.slice none 0 0,.int .i64 0,a,b,u] w (fM false w):=by
 have HB:Hid _:=qo w 4 0;unfold fM;go_enter func117,ntmps117
 go_wp2;go_ret
 exact⟨rfl,HB.out⟩
theorem qdG(a b u:Value)(w:World):Calls prog 117 #[.agg #[.int .u8 5,.int .u8 0],.slice none 0 0,.int .i64 0,a,b,u] w (fM true w):=by
 have HB:Hid _:=qo w 5 0;unfold fM;go_enter func117,ntmps117
 go_wp2;go_ret
 exact⟨rfl,HB.out⟩
theorem qdH(a b u:Value)(w:World):Calls prog 117 #[.agg #[.int .u8 7,.int .u8 0],.slice none 0 0,.int .i64 0,a,b,u] w (fM false w):=by
 have HB:Hid _:=qo w 7 0;unfold fM;go_enter func117,ntmps117
 go_wp2;go_ret
 exact⟨rfl,HB.out⟩
theorem qdI(a b u:Value)(w:World):Calls prog 117 #[.agg #[.int .u8 8,.int .u8 0],.slice none 0 0,.int .i64 0,a,b,u] w (fM true w):=by
 have HB:Hid _:=qo w 8 0;unfold fM;go_enter func117,ntmps117
 go_wp2;go_ret
 exact⟨rfl,HB.out⟩
theorem qc9(ga gb:Nat)(u:Value)(w:World):Calls prog 117 #[.agg #[.int .u8 15,.int .u8 0],.slice none 0 0,.int .i64 0,.slice (some ⟨ga,0,none⟩) 1 1,.slice (some ⟨gb,0,none⟩) 1 1,u] w (fM false w):=by
 have HB:Hid _:=qo w 15 0;have hu:=fun w'=>oY ga gb w'
 unfold fM;go_enter func117,ntmps117
 go_wp2_with fail
 refine (hu _).mono ?_
 rintro e w1 ⟨rfl,rfl⟩
 go_wp2;go_ret
 exact⟨rfl,HB.out⟩
theorem qca(ga gb:Nat)(a b:Bool)(u:Value)(w:World)(hA:aN w ga [a])(hB:aN w gb [b]):Calls prog 117 #[.agg #[.int .u8 16,.int .u8 0],.slice none 0 0,.int .i64 0,.slice (some ⟨ga,0,none⟩) 1 1,.slice (some ⟨gb,0,none⟩) 1 1,u] w (fM true w):=by
 have HB:Hid _:=qo w 16 0;have jn:=YK ga a _ (hA.up (qo w 16 0));have HJ:Hid (∀w',Below w.heap.size w w'->Calls prog 136 #[.slice (some ⟨gb,0,none⟩) 1 1] w' (zx 1 [!b] w')):=fun w' hb=>YK gb b w' ((hB.up hb))
 clear hA hB;unfold fM;go_enter func117,ntmps117
 go_wp2_with fail
 refine jn.mono ?_
 rintro e w1 ⟨g1,rfl,_,hb1,_⟩
 have hc1:=qe HB.out hb1;have j2:=HJ.out w1 hc1;have HB1:Hid _:=hc1;clear jn hb1 hc1
 go_wp2_with fail
 refine j2.mono ?_
 rintro e w2 ⟨g2,rfl,_,hb2,_⟩
 have HB2:Hid _:=qe HB1.out hb2;clear j2 hb2;have hu:=oY g1 g2 w2
 go_wp2_with fail
 refine hu.mono ?_
 rintro e w3 ⟨rfl,rfl⟩
 go_wp2;go_ret
 exact⟨rfl,HB2.out⟩
def AX(w:World)(v:Value)(c:Bool):Prop:=∃ge ec gr,v=.slice (some ⟨ge,0,none⟩) 1 ec/\w.cell? ⟨ge,0,none⟩=some (.slice (some ⟨gr,0,none⟩) 1 1)/\aN w gr [c]
theorem AX.up{c:Bool}(h:AX w v c)(hb:Below w.heap.size w w'):AX w' v c:=by
 obtain⟨ge,ec,gr,e,h1,h2⟩:=h;exact⟨ge,ec,gr,e,qf h1 hb,h2.up hb⟩
theorem qdP:(prog.info? 66).map (·.size)=some 1:=by kernel_rfl
theorem Dz(g ec:Nat)(w:World):(Instr.indexAt 159 (.slice (some ⟨g,0,none⟩) 1 ec) (.int .i64 0)).run prog w=.ok (.pointer (some ⟨g,0,none⟩)) w:=by
 have:=yK (P:=prog) (T:=159) (e:=66) underlying159 qdP (a:=some ⟨g,0,none⟩) (cap:=ec) (n:=1) (by simp) 0 w (by decide)
 simpa [aG,qi] using this
theorem qcb(ga:Nat)(a c:Bool)(b u:Value)(w:World)(hA:aN w ga [a])(hE:AX w u c):Calls prog 117 #[.agg #[.int .u8 17,.int .u8 0],.slice none 0 0,.int .i64 0,.slice (some ⟨ga,0,none⟩) 1 1,b,u] w (fM (c&&a) w):=by
 have HB:Hid _:=qo w 17 0;obtain⟨ge,ec,gr,rfl,h1,h2⟩:=hE.up (qo w 17 0);have hm:=o4 gr ga c a _ h2 (hA.up (qo w 17 0));have hi:=fun w'=>Dz ge ec w'
 clear hA hE h2;unfold fM;go_enter func117,ntmps117
 go_wp2_with fail
 refine hm.mono ?_
 rintro e w1 ⟨rfl,rfl⟩
 go_wp2;go_ret
 exact⟨rfl,HB.out⟩
theorem qcc(ga:Nat)(a c:Bool)(b u:Value)(w:World)(hA:aN w ga [a])(hE:AX w u c):Calls prog 117 #[.agg #[.int .u8 18,.int .u8 0],.slice none 0 0,.int .i64 0,.slice (some ⟨ga,0,none⟩) 1 1,b,u] w (fM (!c || a) w):=by
 have HB:Hid _:=qo w 18 0;obtain⟨ge,ec,gr,rfl,h1,h2⟩:=hE.up (qo w 18 0);have jn:=fun w' (hb:Below w.heap.size w w')=>YK ga a w' (hA.up hb)
 have HN:Hid _:=jn;have HE1:Hid _:=h1;have HE2:Hid _:=h2;have hi:=fun w'=>Dz ge ec w'
 have HM:Hid (∀(w' w'':World)(g:Nat),Below w.heap.size w w'->aN w' gr [c]->aN w' g [!a]->Calls prog 138 #[.slice (some ⟨gr,0,none⟩) 1 1,.slice (some ⟨g,0,none⟩) 1 1] w' fun e w''=>e=.returned (.bool (c && !a))/\w''=w'):=fun w' _ g _ h3 h4=>o4 gr g c (!a) w' h3 h4
 have j1:=jn _ ((qo w 18 0).drew);have HL:Hid (∀w',Below (w.alloc (.cells #[.int .u8 18,.int .u8 0] 42)).drew.heap.size (w.alloc (.cells #[.int .u8 18,.int .u8 0] 42)).drew w'->w'.cell? ⟨ge,0,none⟩=some (.slice (some ⟨gr,0,none⟩) 1 1)/\aN w' gr [c]/\Below w.heap.size w w'):=fun w' hb=>⟨qf (w0:=(w.alloc (.cells #[.int .u8 18,.int .u8 0] 42)).drew) h1 hb,aN.up (w:=(w.alloc (.cells #[.int .u8 18,.int .u8 0] 42)).drew) h2 hb,qe ((qo w 18 0).drew) hb⟩
 clear hA hE h2 jn;unfold fM;go_enter func117,ntmps117
 go_wp2_with fail
 go_region_with (first
  | (revert j1;intro j1;go_at_call 136;(with_reducible refine j1.mono ?_);rintro e w1 ⟨g1,rfl,hv1,hb1,_⟩;obtain⟨hl1,hr1,hc1⟩:=HL.out w1 hb1;have j2:=HM.out w1 w1 g1 hc1 hr1 hv1;have gR:Hid _:=hc1;clear hb1 hv1 j1 hc1 hr1)
  | (revert j2;intro j2;go_at_call 138;(with_reducible refine j2.mono ?_);rintro e w2 ⟨rfl,rfl⟩;clear j2)
  |fail)
 all_goals
  go_wp2;go_ret
  exact⟨by cases a<;>cases c<;>rfl,gR.out⟩
def dW(V:Nat->Bool)(M:Nat):List Bool:=(List.range M).map V
theorem qR(V:Nat->Bool)(M:Nat):(dW V M).length=M:=by simp[dW]
theorem qW(V:Nat->Bool)(h:k<M):(dW V M).getD k false=V k:=by
 simp[dW,List.getD_eq_getElem?_getD,List.getElem?_map,List.getElem?_range h]
theorem aN.off(hv:aN w g bs)(hn:h≠g):aN (w.setCell ⟨h,i,none⟩ v) g bs:=by
 unfold aN;rw[heap_setCell_other _ _ _ _ (by dsimp only;omega)];exact hv
theorem JX{j:Nat}(hn:h≠g):(w.setCell ⟨h,i,none⟩ v).cell? ⟨g,j,none⟩=w.cell? ⟨g,j,none⟩:=by
 unfold World.cell?;rw[heap_setCell_other _ _ _ _ (by dsimp only;omega)]
def eY(w:World)(n:Nat)(ta:Option Addr)(tc x:Nat):Prop:=(n=0/\ta=none/\tc=0)\/(n=1/\tc=1/\∃tb,ta=some ⟨tb,0,none⟩/\w.cell? ⟨tb,0,none⟩=some (.int .u8 x))
theorem eY.up(h:eY w n ta tc x)(hb:Below w.heap.size w w'):eY w' n ta tc x:=by
 rcases h with h|⟨h1,h2,tb,h3,h4⟩
 ·exact .inl h
 ·exact .inr ⟨h1,h2,tb,h3,qf h4 hb⟩
theorem eY.le(h:eY w n ta tc x):n<=1:=by rcases h with h|h<;>omega
def rG(M:Nat)(V:Nat->Bool)(w:World)(e:Ending)(w':World):Prop:=zx M (dW V M) w e w'
def AY(n:Nat)(ta:Option Addr)(tc x:Nat)(T:Tr)(V:Nat->Bool):Prop:=∀(u:Value)(w:World),eG w T u->eY w n ta tc x->Calls prog 91 #[aK (ak T) u,.slice ta n tc] w (rG (n+1) V w)
def uF(c:Bool)(w:World)(e:Ending)(w':World):Prop:=∃ge ec gr,e=.returned (.slice (some ⟨ge,0,none⟩) 1 ec)/\w'.cell? ⟨ge,0,none⟩=some (.slice (some ⟨gr,0,none⟩) 1 1)/\aN w' gr [c]/\Below w.heap.size w w'/\w.heap.size<=ge/\w.heap.size<=gr
def BM(n:Nat)(ta:Option Addr)(tc x:Nat)(T:Tr)(c:Bool):Prop:=∀(u:Value)(w:World),eG w T u->eY w n ta tc x->Calls prog 116 #[aK (ak T) u,.slice ta n tc] w (uF c w)
def zy(V:Nat->Bool)(M k:Nat)(bs:List Bool):Prop:=bs.length=M/\∀i,i<k->bs.getD i false=V i
theorem zy.zero(V:Nat->Bool)(M:Nat):zy V M 0 (List.replicate M false):=⟨by simp,fun i hi=>absurd hi (by omega)⟩
theorem zy.next(h:zy V M k bs)(hk:k<M):zy V M (k+1) (bs.set k (V k)):=by
 refine⟨by rw[List.length_set];exact h.1,fun i hi=>?_⟩
 have hl:=h.1;by_cases e:k=i
 ·subst e;simp[List.getD_eq_getElem?_getD,hl,hk]
 ·have:=h.2 i (by omega)
  simp only[List.getD_eq_getElem?_getD,List.getElem?_set,if_neg e]at this ⊢
  exact this
theorem zy.fin(h:zy V M M bs):bs=dW V M:=by
 apply List.ext_getElem (by rw[h.1,qR])
 intro i h1 h2;have:=h.2 i (by rw[<-h.1];exact h1)
 simp only[List.getD_eq_getElem?_getD,List.getElem?_eq_getElem h1,Option.getD_some]at this
 rw[this];simp[dW]
structure kV(w wr:World)(op p M:Nat)(u:Value):Prop where
 box:wr.heap[w.heap.size]? =some (.cells #[.int .u8 op,.int .u8 p,u] 77 (0,0))
 ups:Below w.heap.size w wr
theorem kV.cells(h:kV w wr op p M u):wr.cell? ⟨w.heap.size,0,none⟩=some (.int .u8 op)/\wr.cell? ⟨w.heap.size,1,none⟩=some (.int .u8 p)/\wr.cell? ⟨w.heap.size,2,none⟩=some u:=⟨qc h.box 0,qc h.box 1,qc h.box 2⟩
theorem kV.next(h:kV w wr op p M u)(hb:Below wr.heap.size wr w'):kV w w' op p M u:=⟨(hb.block _ (lC h.box).1).trans h.box,qe h.ups hb⟩
theorem kV.put(h:kV w wr op p M u)(i:Nat)(v:Value):kV w (wr.setCell ⟨w.heap.size+1,i,none⟩ v) op p M u:=⟨by rw[heap_setCell_other _ _ _ _ (by dsimp only;omega)];exact h.box,h.ups.setCell (by dsimp only;omega) _⟩
theorem kV.start(w:World)(op p M:Nat)(u:Value):kV w ((w.alloc (.cells #[.int .u8 op,.int .u8 p,u] 77)).alloc (.cells (Array.replicate M (Value.bool false)) 4)) op p M u:=by
 have h0:kV w (w.alloc (.cells #[.int .u8 op,.int .u8 p,u] 77)) op p M u:=⟨(dO w _).1,qd w _⟩;exact h0.next (qd _ _)
theorem UZ(w:World)(M:Nat)(hM:M<=2)(v:Value)(op p:Nat):(Instr.makeSlice 66 (.int .i64 M) (.int .i64 M)).run prog (w.alloc (.cells #[.int .u8 op,.int .u8 p,v] 77))=.ok (.slice (some ⟨w.heap.size+1,0,none⟩) M M) ((w.alloc (.cells #[.int .u8 op,.int .u8 p,v] 77)).alloc (.cells (Array.replicate M (Value.bool false)) 4)):=by
 have:=YJ M (by omega) (w.alloc (.cells #[.int .u8 op,.int .u8 p,v] 77))
 simpa using this
theorem U0(w:World)(M:Nat)(v:Value)(op p:Nat):aN ((w.alloc (.cells #[.int .u8 op,.int .u8 p,v] 77)).alloc (.cells (Array.replicate M (Value.bool false)) 4)) (w.heap.size+1) (List.replicate M false):=by
 have:=aN.made (w.alloc (.cells #[.int .u8 op,.int .u8 p,v] 77)) M
 simpa using this
theorem Ip(op:Nat)(hop:op=0\/op=1\/op=2\/op=4\/op=5)(pp n tc x:Nat)(ta:Option Addr)(V:Nat->Bool)(hat:∀k,k<n+1->∀w',eY w' n ta tc x->Calls prog 117 #[.agg #[.int .u8 op,.int .u8 pp],.slice ta n tc,.int .i64 k,.slice none 0 0,.slice none 0 0,.slice none 0 0] w' (fM (V k) w')):AY n ta tc x (.leaf (op,pp)) V:=by
 intro u w hu hl;obtain⟨a,c,rfl⟩:=hu
 show Calls prog 91 #[.agg #[.int .u8 op,.int .u8 pp,.slice a 0 c],.slice ta n tc] w (rG (n+1) V w)
 obtain⟨M,hM⟩:∃M,M=n+1:=⟨_,rfl⟩
 have hn1:=hl.le;have og:Hid (∀w',Below w.heap.size w w'->eY w' n ta tc x):=fun w' hb=>hl.up hb
 rw[<-hM]at hat ⊢;have hm:=UZ w M (by omega) (.slice a 0 c) op pp
 have HV:Hid _:=kV.start w op pp M (.slice a 0 c);have HO:Hid _:=U0 w M (.slice a 0 c) op pp;have hw:IntKind.i64.wrap ((n:Int)+1)=(M:Int):=by rw[IntKind.wrap_i64];omega
 have HL:Hid _:=og.out _ HV.out.ups;have HAT:Hid _:=hat;have yO:=aX hM;obtain⟨k0,k1,k2⟩:=HV.out.cells;unfold rG zx;clear hat hl hM;have n17:=aP op 17 (by omega)
 have n18:=aP op 18 (by omega)
 have hs:(((op:Int)==0)=true)\/(((op:Int)==0)=false/\((op:Int)==1)=true)\/(((op:Int)==0)=false/\((op:Int)==1)=false/\((op:Int)==2)=true)\/(((op:Int)==0)=false/\((op:Int)==1)=false/\((op:Int)==2)=false/\((op:Int)==3)=false/\((op:Int)==4)=true)\/(((op:Int)==0)=false/\((op:Int)==1)=false/\((op:Int)==2)=false/\((op:Int)==3)=false/\((op:Int)==4)=false/\((op:Int)==5)=true):=by simp only[beq_iff_eq,beq_eq_false_iff_ne];omega
 clear hop;rcases hs with g0|⟨g0,g1⟩|⟨g0,g1,g2⟩|⟨g0,g1,g2,g3,g4⟩|⟨g0,g1,g2,g3,g4,g5⟩
 all_goals
  go_enter func91,ntmps91
  go_wp2;clear k0 k1 k2;generalize (w.alloc (.cells #[.int .u8 op,.int .u8 pp,.slice a 0 c] 77)).alloc (.cells (Array.replicate M (Value.bool false)) 4)=w1 at *
  go_loopw [10] (fun i wr=>∃k:Nat,k<=M/\i=.int .i64 k/\Hid (kV w wr op pp M (.slice a 0 c))/\(∃bs,Hid (aN wr (w.heap.size+1) bs)/\Hid (zy V M k bs))/\Hid (eY wr n ta tc x)) (fun i _=>M-(intOf i).toNat)
  case atStart=>exact⟨0,Nat.zero_le _,rfl,HV,⟨_,HO,zy.zero _ _⟩,HL⟩
  case round=>
   obtain⟨k,hk,rfl,kD,⟨bs,DC,zA⟩,DF⟩:=hrel;by_cases hlt:k<M
   ·have j:=HAT.out k hlt wr DF.out
    obtain⟨k0,k1,k2⟩:=kD.out.cells;have hle:(k:Int)<=(n:Int):=by have:=yO.out;omega
    go_wp2_with fail
    (with_reducible refine j.mono ?_)
    rintro e w2 ⟨rfl,hb2⟩
    have HB2:Hid (aN w2 (w.heap.size+1) bs):=DC.out.up hb2;have jK:Hid _:=kD.out.next hb2;have HL2:Hid (eY w2 n ta tc x):=DF.out.up hb2;have hcc:=HB2.out.cell (i:=k) (by rw[zA.out.1];exact hlt)
    have hfz:=HB2.out.fz k;have hi:=fun w'=>qM (w.heap.size+1) M k w' hlt
    have HS:Hid (aN (w2.setCell ⟨w.heap.size+1,k,none⟩ (.bool (V k))) (w.heap.size+1) (bs.set k (V k))):=HB2.out.set k (V k);have JY:Hid _:=zA.out.next hlt;have rH:Hid (kV w (w2.setCell ⟨w.heap.size+1,k,none⟩ (.bool (V k))) op pp M (.slice a 0 c)):=jK.out.put k _;have HLn:Hid (eY (w2.setCell ⟨w.heap.size+1,k,none⟩ (.bool (V k))) n ta tc x):=og.out _ rH.out.ups;clear j hb2;go_wp2
    go_roundw
    case rel=>exact⟨k+1,by omega,by go_num,rH,⟨_,HS,JY⟩,HLn⟩
    case measure=>simp[intOf];omega
   ·obtain rfl:k=M:=by omega
    have hgt:¬(k:Int)<=(n:Int):=by have:=yO.out;omega
    have HX:Hid (aN wr (w.heap.size+1) (dW V k)):=by have:=DC.out;rw[zA.out.fin]at this;exact this
    have BN:Hid _:=kD.out.ups;go_wp2;go_ret
    exact⟨_,rfl,HX.out,BN.out,by omega⟩
theorem U1(op:Nat)(hop:5<op/\op<17)(pp n tc x:Nat)(ta:Option Addr)(c:Tr)(A V:Nat->Bool)(hc:AY n ta tc x c A)(hat:∀k,k<n+1->∀w',eY w' n ta tc x->∀ga,aN w' ga (dW A (n+1))->Calls prog 117 #[.agg #[.int .u8 op,.int .u8 pp],.slice ta n tc,.int .i64 k,.slice (some ⟨ga,0,none⟩) (n+1) (n+1),.slice none 0 0,.slice none 0 0] w' (fM (V k) w')):AY n ta tc x (.un (op,pp) c) V:=by
 intro u w hu hl;obtain⟨g,cap,u',rfl,hnd,hst⟩:=hu;obtain⟨ua,um,uc,rfl⟩:=hst.sl
 show Calls prog 91 #[.agg #[.int .u8 op,.int .u8 pp,(.slice (some ⟨g,0,none⟩) 1 cap)],.slice ta n tc] w (rG (n+1) V w)
 have ny:∀w',Below w.heap.size w w'->Calls prog 91 #[aK (ak c) (.slice ua um uc),.slice ta n tc] w' (rG (n+1) A w'):=fun w' hb=>hc _ w' (hst.up hb) (hl.up hb)
 have sZ:Hid (∀w',Below w.heap.size w w'->bJ w' g 0 (ak c) (.slice ua um uc)):=fun w' hb=>hnd.up hb
 clear hc hst hnd;obtain⟨M,hM⟩:∃M,M=n+1:=⟨_,rfl⟩
 have hn1:=hl.le;have og:Hid (∀w',Below w.heap.size w w'->eY w' n ta tc x):=fun w' hb=>hl.up hb
 have hm:=UZ w M (by omega) (.slice (some ⟨g,0,none⟩) 1 cap) op pp
 have HV:Hid _:=kV.start w op pp M (.slice (some ⟨g,0,none⟩) 1 cap);have HO:Hid _:=U0 w M (.slice (some ⟨g,0,none⟩) 1 cap) op pp;have hw:IntKind.i64.wrap ((n:Int)+1)=(M:Int):=by rw[IntKind.wrap_i64];omega
 have HZ:Hid (w.heap.size+2<=((w.alloc (.cells #[.int .u8 (op:Nat),.int .u8 (pp:Nat),(.slice (some ⟨g,0,none⟩) 1 cap)] 77)).alloc (.cells (Array.replicate M (Value.bool false)) 4)).heap.size):=by show _<=_;simp
 have HAT:Hid _:=hat;have yO:=aX hM;generalize (w.alloc (.cells #[.int .u8 (op:Nat),.int .u8 (pp:Nat),(.slice (some ⟨g,0,none⟩) 1 cap)] 77)).alloc (.cells (Array.replicate M (Value.bool false)) 4)=w1 at *;have HL:Hid (eY w1 n ta tc x):=og.out _ HV.out.ups;have HO:Hid (aN w1 (w.heap.size+1) (List.replicate M false)):=HO.out;obtain⟨k0,k1,k2⟩:=HV.out.cells;have jc:=ny _ HV.out.ups;obtain⟨n0,n1,n2⟩:=sZ.out _ HV.out.ups;have hix:=fun w'=>qm g 1 cap w' (by omega)
 rw[<-hM]at HAT jc ⊢;unfold rG zx;unfold aK rG zx at jc;generalize ak c=rk at *;obtain⟨ro,rp⟩:=rk;dsimp only at n0 n1 n2 jc
 clear hat hl hM ny sZ;have n17:=aP op 17 (by omega)
 have n18:=aP op 18 (by omega)
 have n0:=aP op 0 (by omega)
 have n1:=aP op 1 (by omega)
 have n2:=aP op 2 (by omega)
 have n3:=aP op 3 (by omega)
 have n4:=aP op 4 (by omega)
 have n5:=aP op 5 (by omega)
 clear hop;go_enter func91,ntmps91
 go_wp2_with fail
 (with_reducible refine jc.mono ?_)
 rintro e w2 ⟨ga,rfl,ha,hb,hge⟩
 have jK:Hid _:=HV.out.next hb;have l9:Hid (aN w2 (w.heap.size+1) (List.replicate M false)):=HO.out.up hb;have HL2:Hid (eY w2 n ta tc x):=HL.out.up hb;have ED:=aX ha;have FU:Hid (w.heap.size+1≠ga):=by have:=HZ.out;show _≠_;omega
 clear jc k0 k1 k2 n0 n1 n2 ha hb hge HV HO HL;obtain⟨k0,k1,k2⟩:=jK.out.cells;go_wp2;clear k0 k1 k2
 go_loopw [10] (fun i wr=>∃k:Nat,k<=M/\i=.int .i64 k/\Hid (kV w wr op pp M (.slice (some ⟨g,0,none⟩) 1 cap))/\(∃bs,Hid (aN wr (w.heap.size+1) bs)/\Hid (zy V M k bs))/\Hid (eY wr n ta tc x)/\Hid (aN wr ga (dW A M))) (fun i _=>M-(intOf i).toNat)
 case atStart=>exact⟨0,Nat.zero_le _,rfl,jK,⟨_,l9,zy.zero _ _⟩,HL2,ED⟩
 case round=>
  obtain⟨k,hk,rfl,kD,⟨bs,DC,zA⟩,DF,EF⟩:=hrel;by_cases hlt:k<M
  ·have j:=HAT.out k hlt wr DF.out ga EF.out
   obtain⟨k0,k1,k2⟩:=kD.out.cells;have hle:(k:Int)<=(n:Int):=by have:=yO.out;omega
   go_wp2_with fail
   (with_reducible refine j.mono ?_)
   rintro e w3 ⟨rfl,hb2⟩
   have HB2:Hid (aN w3 (w.heap.size+1) bs):=DC.out.up hb2;have jK:Hid _:=kD.out.next hb2;have HL2:Hid (eY w3 n ta tc x):=DF.out.up hb2;have HA2:Hid (aN w3 ga (dW A M)):=EF.out.up hb2;have hcc:=HB2.out.cell (i:=k) (by rw[zA.out.1];exact hlt)
   have hfz:=HB2.out.fz k;have hi:=fun w'=>qM (w.heap.size+1) M k w' hlt
   have HS:Hid (aN (w3.setCell ⟨w.heap.size+1,k,none⟩ (.bool (V k))) (w.heap.size+1) (bs.set k (V k))):=HB2.out.set k (V k);have JY:Hid _:=zA.out.next hlt;have rH:Hid (kV w (w3.setCell ⟨w.heap.size+1,k,none⟩ (.bool (V k))) op pp M (.slice (some ⟨g,0,none⟩) 1 cap)):=jK.out.put k _;have HLn:Hid (eY (w3.setCell ⟨w.heap.size+1,k,none⟩ (.bool (V k))) n ta tc x):=og.out _ rH.out.ups;have AZ:Hid (aN (w3.setCell ⟨w.heap.size+1,k,none⟩ (.bool (V k))) ga (dW A M)):=HA2.out.off FU.out;clear j hb2;go_wp2
   go_roundw
   case rel=>exact⟨k+1,by omega,by go_num,rH,⟨_,HS,JY⟩,HLn,AZ⟩
   case measure=>simp[intOf];omega
  ·obtain rfl:k=M:=by omega
   have hgt:¬(k:Int)<=(n:Int):=by have:=yO.out;omega
   have HX:Hid (aN wr (w.heap.size+1) (dW V k)):=by have:=DC.out;rw[zA.out.fin]at this;exact this
   have BN:Hid _:=kD.out.ups;go_wp2;go_ret
   exact⟨_,rfl,HX.out,BN.out,by omega⟩
theorem Iq(op:Nat)(hop:5<op/\op<17)(pp n tc x:Nat)(ta:Option Addr)(c d:Tr)(A B V:Nat->Bool)(hc:AY n ta tc x c A)(hd:AY n ta tc x d B)(hat:∀k,k<n+1->∀w',eY w' n ta tc x->∀ga,aN w' ga (dW A (n+1))->∀gb,aN w' gb (dW B (n+1))->Calls prog 117 #[.agg #[.int .u8 op,.int .u8 pp],.slice ta n tc,.int .i64 k,.slice (some ⟨ga,0,none⟩) (n+1) (n+1),.slice (some ⟨gb,0,none⟩) (n+1) (n+1),.slice none 0 0] w' (fM (V k) w')):AY n ta tc x (.bin (op,pp) c d) V:=by
 intro u w hu hl;obtain⟨g,cap,u',u'',rfl,hnd,hnd',hst,hst'⟩:=hu;obtain⟨ua,um,uc,rfl⟩:=hst.sl;obtain⟨va,vm,vc,rfl⟩:=hst'.sl
 show Calls prog 91 #[.agg #[.int .u8 op,.int .u8 pp,(.slice (some ⟨g,0,none⟩) 2 cap)],.slice ta n tc] w (rG (n+1) V w)
 have ny:∀w',Below w.heap.size w w'->Calls prog 91 #[aK (ak c) (.slice ua um uc),.slice ta n tc] w' (rG (n+1) A w'):=fun w' hb=>hc _ w' (hst.up hb) (hl.up hb)
 have pK:∀w',Below w.heap.size w w'->Calls prog 91 #[aK (ak d) (.slice va vm vc),.slice ta n tc] w' (rG (n+1) B w'):=fun w' hb=>hd _ w' (hst'.up hb) (hl.up hb)
 have sZ:Hid (∀w',Below w.heap.size w w'->bJ w' g 0 (ak c) (.slice ua um uc)):=fun w' hb=>hnd.up hb
 have tq:Hid (∀w',Below w.heap.size w w'->bJ w' g 3 (ak d) (.slice va vm vc)):=fun w' hb=>hnd'.up hb
 clear hc hst hnd hd hst' hnd';obtain⟨M,hM⟩:∃M,M=n+1:=⟨_,rfl⟩
 have hn1:=hl.le;have og:Hid (∀w',Below w.heap.size w w'->eY w' n ta tc x):=fun w' hb=>hl.up hb
 have hm:=UZ w M (by omega) (.slice (some ⟨g,0,none⟩) 2 cap) op pp
 have HV:Hid _:=kV.start w op pp M (.slice (some ⟨g,0,none⟩) 2 cap);have HO:Hid _:=U0 w M (.slice (some ⟨g,0,none⟩) 2 cap) op pp;have hw:IntKind.i64.wrap ((n:Int)+1)=(M:Int):=by rw[IntKind.wrap_i64];omega
 have HZ:Hid (w.heap.size+2<=((w.alloc (.cells #[.int .u8 (op:Nat),.int .u8 (pp:Nat),(.slice (some ⟨g,0,none⟩) 2 cap)] 77)).alloc (.cells (Array.replicate M (Value.bool false)) 4)).heap.size):=by show _<=_;simp
 have HAT:Hid _:=hat;have yO:=aX hM;generalize (w.alloc (.cells #[.int .u8 (op:Nat),.int .u8 (pp:Nat),(.slice (some ⟨g,0,none⟩) 2 cap)] 77)).alloc (.cells (Array.replicate M (Value.bool false)) 4)=w1 at *;have HL:Hid (eY w1 n ta tc x):=og.out _ HV.out.ups;have HO:Hid (aN w1 (w.heap.size+1) (List.replicate M false)):=HO.out;obtain⟨k0,k1,k2⟩:=HV.out.cells;have jc:=ny _ HV.out.ups;obtain⟨n0,n1,n2⟩:=sZ.out _ HV.out.ups;have hix:=fun w'=>qm g 2 cap w' (by omega)
 have hix':=fun w'=>qE g 2 cap w' (by omega)
 rw[<-hM]at HAT jc pK ⊢;unfold rG zx;unfold aK rG zx at jc;generalize ak c=rk at *;obtain⟨ro,rp⟩:=rk;unfold aK rG zx at pK;generalize ak d=sk at *;obtain⟨so,sp⟩:=sk;dsimp only at n0 n1 n2 jc pK
 have yN:Hid (∀w',Below w.heap.size w w'->Calls prog 91 #[.agg #[.int .u8 so,.int .u8 sp,.slice va vm vc],.slice ta n tc] w' fun e w''=>∃g,e=.returned (.slice (some ⟨g,0,none⟩) M M)/\aN w'' g (dW B M)/\Below w'.heap.size w' w''/\w'.heap.size<=g):=pK
 clear hat hl hM ny sZ pK;have n17:=aP op 17 (by omega)
 have n18:=aP op 18 (by omega)
 have n0:=aP op 0 (by omega)
 have n1:=aP op 1 (by omega)
 have n2:=aP op 2 (by omega)
 have n3:=aP op 3 (by omega)
 have n4:=aP op 4 (by omega)
 have n5:=aP op 5 (by omega)
 clear hop;go_enter func91,ntmps91
 go_wp2_with fail
 (with_reducible refine jc.mono ?_)
 rintro e w2 ⟨ga,rfl,ha,hb,hge⟩
 have jK:Hid _:=HV.out.next hb;have l9:Hid (aN w2 (w.heap.size+1) (List.replicate M false)):=HO.out.up hb;have HL2:Hid (eY w2 n ta tc x):=HL.out.up hb;have ED:=aX ha;have FU:Hid (w.heap.size+1≠ga):=by have:=HZ.out;show _≠_;omega
 have HZ2:Hid (w.heap.size+2<=w2.heap.size):=Nat.le_trans HZ.out hb.size;clear jc k0 k1 k2 n0 n1 n2 ha hb hge HV HO HL;obtain⟨k0,k1,k2⟩:=jK.out.cells;obtain⟨m0,m1,m2⟩:=tq.out _ jK.out.ups;have jd:=yN.out _ jK.out.ups;dsimp only at m0 m1 m2
 clear tq yN
 go_wp2_with fail
 (with_reducible refine jd.mono ?_)
 rintro e w4 ⟨gb,rfl,ha,hb,hge⟩
 have FZ:Hid _:=jK.out.next hb;have uz:Hid (aN w4 (w.heap.size+1) (List.replicate M false)):=l9.out.up hb;have YM:Hid (eY w4 n ta tc x):=HL2.out.up hb;have F8:Hid (aN w4 ga (dW A M)):=ED.out.up hb;have HB4:=aX ha;have YN:Hid (w.heap.size+1≠gb):=by have:=HZ2.out;show _≠_;omega
 clear jd k0 k1 k2 m0 m1 m2 ha hb hge jK l9 HL2 ED;go_wp2
 go_loopw [10] (fun i wr=>∃k:Nat,k<=M/\i=.int .i64 k/\Hid (kV w wr op pp M (.slice (some ⟨g,0,none⟩) 2 cap))/\(∃bs,Hid (aN wr (w.heap.size+1) bs)/\Hid (zy V M k bs))/\Hid (eY wr n ta tc x)/\Hid (aN wr ga (dW A M))/\Hid (aN wr gb (dW B M))) (fun i _=>M-(intOf i).toNat)
 case atStart=>exact⟨0,Nat.zero_le _,rfl,FZ,⟨_,uz,zy.zero _ _⟩,YM,F8,HB4⟩
 case round=>
  obtain⟨k,hk,rfl,kD,⟨bs,DC,zA⟩,DF,EF,DI⟩:=hrel;by_cases hlt:k<M
  ·have j:=HAT.out k hlt wr DF.out ga EF.out gb DI.out
   obtain⟨k0,k1,k2⟩:=kD.out.cells;have hle:(k:Int)<=(n:Int):=by have:=yO.out;omega
   go_wp2_with fail
   (with_reducible refine j.mono ?_)
   rintro e w3 ⟨rfl,hb2⟩
   have HB2:Hid (aN w3 (w.heap.size+1) bs):=DC.out.up hb2;have jK:Hid _:=kD.out.next hb2;have HL2:Hid (eY w3 n ta tc x):=DF.out.up hb2;have HA2:Hid (aN w3 ga (dW A M)):=EF.out.up hb2;have JZ:Hid (aN w3 gb (dW B M)):=DI.out.up hb2;have hcc:=HB2.out.cell (i:=k) (by rw[zA.out.1];exact hlt)
   have hfz:=HB2.out.fz k;have hi:=fun w'=>qM (w.heap.size+1) M k w' hlt
   have HS:Hid (aN (w3.setCell ⟨w.heap.size+1,k,none⟩ (.bool (V k))) (w.heap.size+1) (bs.set k (V k))):=HB2.out.set k (V k);have JY:Hid _:=zA.out.next hlt;have rH:Hid (kV w (w3.setCell ⟨w.heap.size+1,k,none⟩ (.bool (V k))) op pp M (.slice (some ⟨g,0,none⟩) 2 cap)):=jK.out.put k _;have HLn:Hid (eY (w3.setCell ⟨w.heap.size+1,k,none⟩ (.bool (V k))) n ta tc x):=og.out _ rH.out.ups;have AZ:Hid (aN (w3.setCell ⟨w.heap.size+1,k,none⟩ (.bool (V k))) ga (dW A M)):=HA2.out.off FU.out;have QA:Hid (aN (w3.setCell ⟨w.heap.size+1,k,none⟩ (.bool (V k))) gb (dW B M)):=JZ.out.off YN.out;clear j hb2;go_wp2
   go_roundw
   case rel=>exact⟨k+1,by omega,by go_num,rH,⟨_,HS,JY⟩,HLn,AZ,QA⟩
   case measure=>simp[intOf];omega
  ·obtain rfl:k=M:=by omega
   have hgt:¬(k:Int)<=(n:Int):=by have:=yO.out;omega
   have HX:Hid (aN wr (w.heap.size+1) (dW V k)):=by have:=DC.out;rw[zA.out.fin]at this;exact this
   have BN:Hid _:=kD.out.ups;go_wp2;go_ret
   exact⟨_,rfl,HX.out,BN.out,by omega⟩
theorem pw(op:Nat)(hop:op=17\/op=18)(pp n tc x:Nat)(ta:Option Addr)(c d:Tr)(A:Bool)(B V:Nat->Bool)(hc:BM n ta tc x c A)(hd:AY n ta tc x d B)(hat:∀k,k<n+1->∀w',eY w' n ta tc x->∀v,AX w' v A->∀gb,aN w' gb (dW B (n+1))->Calls prog 117 #[.agg #[.int .u8 op,.int .u8 pp],.slice ta n tc,.int .i64 k,.slice (some ⟨gb,0,none⟩) (n+1) (n+1),.slice none 0 0,v] w' (fM (V k) w')):AY n ta tc x (.bin (op,pp) c d) V:=by
 intro u w hu hl;obtain⟨g,cap,u',u'',rfl,hnd,hnd',hst,hst'⟩:=hu;obtain⟨ua,um,uc,rfl⟩:=hst.sl;obtain⟨va,vm,vc,rfl⟩:=hst'.sl
 show Calls prog 91 #[.agg #[.int .u8 op,.int .u8 pp,(.slice (some ⟨g,0,none⟩) 2 cap)],.slice ta n tc] w (rG (n+1) V w)
 have ny:∀w',Below w.heap.size w w'->Calls prog 116 #[aK (ak c) (.slice ua um uc),.slice ta n tc] w' (uF A w'):=fun w' hb=>hc _ w' (hst.up hb) (hl.up hb)
 have pK:∀w',Below w.heap.size w w'->Calls prog 91 #[aK (ak d) (.slice va vm vc),.slice ta n tc] w' (rG (n+1) B w'):=fun w' hb=>hd _ w' (hst'.up hb) (hl.up hb)
 have sZ:Hid (∀w',Below w.heap.size w w'->bJ w' g 0 (ak c) (.slice ua um uc)):=fun w' hb=>hnd.up hb
 have tq:Hid (∀w',Below w.heap.size w w'->bJ w' g 3 (ak d) (.slice va vm vc)):=fun w' hb=>hnd'.up hb
 clear hc hst hnd hd hst' hnd';obtain⟨M,hM⟩:∃M,M=n+1:=⟨_,rfl⟩
 have hn1:=hl.le;have og:Hid (∀w',Below w.heap.size w w'->eY w' n ta tc x):=fun w' hb=>hl.up hb
 have hm:=UZ w M (by omega) (.slice (some ⟨g,0,none⟩) 2 cap) op pp
 have HV:Hid _:=kV.start w op pp M (.slice (some ⟨g,0,none⟩) 2 cap);have HO:Hid _:=U0 w M (.slice (some ⟨g,0,none⟩) 2 cap) op pp;have hw:IntKind.i64.wrap ((n:Int)+1)=(M:Int):=by rw[IntKind.wrap_i64];omega
 have HZ:Hid (w.heap.size+2<=((w.alloc (.cells #[.int .u8 (op:Nat),.int .u8 (pp:Nat),(.slice (some ⟨g,0,none⟩) 2 cap)] 77)).alloc (.cells (Array.replicate M (Value.bool false)) 4)).heap.size):=by show _<=_;simp
 have HAT:Hid _:=hat;have yO:=aX hM;generalize (w.alloc (.cells #[.int .u8 (op:Nat),.int .u8 (pp:Nat),(.slice (some ⟨g,0,none⟩) 2 cap)] 77)).alloc (.cells (Array.replicate M (Value.bool false)) 4)=w1 at *;have HL:Hid (eY w1 n ta tc x):=og.out _ HV.out.ups;have HO:Hid (aN w1 (w.heap.size+1) (List.replicate M false)):=HO.out;obtain⟨k0,k1,k2⟩:=HV.out.cells;have jc:=ny _ HV.out.ups;obtain⟨n0,n1,n2⟩:=sZ.out _ HV.out.ups;have hix:=fun w'=>qm g 2 cap w' (by omega)
 have hix':=fun w'=>qE g 2 cap w' (by omega)
 rw[<-hM]at HAT pK ⊢;unfold rG zx;unfold aK uF at jc;generalize ak c=rk at *;obtain⟨ro,rp⟩:=rk;unfold aK rG zx at pK;generalize ak d=sk at *;obtain⟨so,sp⟩:=sk;dsimp only at n0 n1 n2 jc pK
 have yN:Hid (∀w',Below w.heap.size w w'->Calls prog 91 #[.agg #[.int .u8 so,.int .u8 sp,.slice va vm vc],.slice ta n tc] w' fun e w''=>∃g,e=.returned (.slice (some ⟨g,0,none⟩) M M)/\aN w'' g (dW B M)/\Below w'.heap.size w' w''/\w'.heap.size<=g):=pK
 clear hat hl hM ny sZ pK;have hs:(((op:Int)==17)=true)\/(((op:Int)==17)=false/\((op:Int)==18)=true):=by simp only[beq_iff_eq,beq_eq_false_iff_ne];omega
 clear hop;rcases hs with g17|⟨g17,g18⟩
 all_goals
  go_enter func91,ntmps91
  go_wp2_with fail
  (with_reducible refine jc.mono ?_)
  rintro e w2 ⟨ge,ec,gr,rfl,hx,ha,hb,hge,hgr⟩
  have jK:Hid _:=HV.out.next hb;have l9:Hid (aN w2 (w.heap.size+1) (List.replicate M false)):=HO.out.up hb;have HL2:Hid (eY w2 n ta tc x):=HL.out.up hb;have ED:Hid (w2.cell? ⟨ge,0,none⟩=some (.slice (some ⟨gr,0,none⟩) 1 1)/\aN w2 gr [A]):=⟨hx,ha⟩;have FU:Hid (w.heap.size+1≠ge/\w.heap.size+1≠gr):=by have:=HZ.out;exact⟨by omega,by omega⟩
  have HZ2:Hid (w.heap.size+2<=w2.heap.size):=Nat.le_trans HZ.out hb.size;clear jc k0 k1 k2 n0 n1 n2 ha hb hge hgr hx HV HO HL;obtain⟨k0,k1,k2⟩:=jK.out.cells;obtain⟨m0,m1,m2⟩:=tq.out _ jK.out.ups;have jd:=yN.out _ jK.out.ups;dsimp only at m0 m1 m2
  clear tq yN
  go_wp2_with fail
  (with_reducible refine jd.mono ?_)
  rintro e w4 ⟨gb,rfl,ha,hb,hge⟩
  have FZ:Hid _:=jK.out.next hb;have uz:Hid (aN w4 (w.heap.size+1) (List.replicate M false)):=l9.out.up hb;have YM:Hid (eY w4 n ta tc x):=HL2.out.up hb;have F8:Hid (w4.cell? ⟨ge,0,none⟩=some (.slice (some ⟨gr,0,none⟩) 1 1)/\aN w4 gr [A]):=⟨qf ED.out.1 hb,ED.out.2.up hb⟩;have HB4:=aX ha;have YN:Hid (w.heap.size+1≠gb):=by have:=HZ2.out;show _≠_;omega
  clear jd k0 k1 k2 m0 m1 m2 ha hb hge jK l9 HL2 ED;go_wp2
  go_loopw [10] (fun i wr=>∃k:Nat,k<=M/\i=.int .i64 k/\Hid (kV w wr op pp M (.slice (some ⟨g,0,none⟩) 2 cap))/\(∃bs,Hid (aN wr (w.heap.size+1) bs)/\Hid (zy V M k bs))/\Hid (eY wr n ta tc x)/\Hid (wr.cell? ⟨ge,0,none⟩=some (.slice (some ⟨gr,0,none⟩) 1 1)/\aN wr gr [A])/\Hid (aN wr gb (dW B M))) (fun i _=>M-(intOf i).toNat)
  case atStart=>exact⟨0,Nat.zero_le _,rfl,FZ,⟨_,uz,zy.zero _ _⟩,YM,F8,HB4⟩
  case round=>
   obtain⟨k,hk,rfl,kD,⟨bs,DC,zA⟩,DF,EF,DI⟩:=hrel;by_cases hlt:k<M
   ·have j:=HAT.out k hlt wr DF.out _ ⟨ge,ec,gr,rfl,EF.out.1,EF.out.2⟩ gb DI.out
    obtain⟨k0,k1,k2⟩:=kD.out.cells;have hle:(k:Int)<=(n:Int):=by have:=yO.out;omega
    go_wp2_with fail
    (with_reducible refine j.mono ?_)
    rintro e w3 ⟨rfl,hb2⟩
    have HB2:Hid (aN w3 (w.heap.size+1) bs):=DC.out.up hb2;have jK:Hid _:=kD.out.next hb2;have HL2:Hid (eY w3 n ta tc x):=DF.out.up hb2;have HA2:Hid (w3.cell? ⟨ge,0,none⟩=some (.slice (some ⟨gr,0,none⟩) 1 1)/\aN w3 gr [A]):=⟨qf EF.out.1 hb2,EF.out.2.up hb2⟩;have JZ:Hid (aN w3 gb (dW B M)):=DI.out.up hb2;have hcc:=HB2.out.cell (i:=k) (by rw[zA.out.1];exact hlt)
    have hfz:=HB2.out.fz k;have hi:=fun w'=>qM (w.heap.size+1) M k w' hlt
    have HS:Hid (aN (w3.setCell ⟨w.heap.size+1,k,none⟩ (.bool (V k))) (w.heap.size+1) (bs.set k (V k))):=HB2.out.set k (V k);have JY:Hid _:=zA.out.next hlt;have rH:Hid (kV w (w3.setCell ⟨w.heap.size+1,k,none⟩ (.bool (V k))) op pp M (.slice (some ⟨g,0,none⟩) 2 cap)):=jK.out.put k _;have HLn:Hid (eY (w3.setCell ⟨w.heap.size+1,k,none⟩ (.bool (V k))) n ta tc x):=og.out _ rH.out.ups;have AZ:Hid ((w3.setCell ⟨w.heap.size+1,k,none⟩ (.bool (V k))).cell? ⟨ge,0,none⟩=some (.slice (some ⟨gr,0,none⟩) 1 1)/\aN (w3.setCell ⟨w.heap.size+1,k,none⟩ (.bool (V k))) gr [A]):=⟨(JX FU.out.1).trans HA2.out.1,HA2.out.2.off FU.out.2⟩;have QA:Hid (aN (w3.setCell ⟨w.heap.size+1,k,none⟩ (.bool (V k))) gb (dW B M)):=JZ.out.off YN.out;clear j hb2;go_wp2
    go_roundw
    case rel=>exact⟨k+1,by omega,by go_num,rH,⟨_,HS,JY⟩,HLn,AZ,QA⟩
    case measure=>simp[intOf];omega
   ·obtain rfl:k=M:=by omega
    have hgt:¬(k:Int)<=(n:Int):=by have:=yO.out;omega
    have HX:Hid (aN wr (w.heap.size+1) (dW V k)):=by have:=DC.out;rw[zA.out.fin]at this;exact this
    have BN:Hid _:=kD.out.ups;go_wp2;go_ret
    exact⟨_,rfl,HX.out,BN.out,by omega⟩
theorem QB{w:World}{ops:Array Oper}{rest:List Oper}{o:Oper}{a:Act}{Q:Exit->Act->World->Prop}(hgd:o.guard=none)(s x:Operand)
  (ho:o.op=.call { callee:=.builtin .append,args:=#[s,x],argTypes:=#[159,159] }) (base:Nat)
  (v:Value) (n:Nat) (vs:List Value) (hs:a.eval s=v) (hown:w.ownsRow base 66 1 v n vs) (g':Nat) (y:Option Addr) (len cap:Nat) (hx:a.eval x=.slice (some ⟨g',0,none⟩) 1 1) (hc:w.cell? ⟨g',0,none⟩=some (.slice y len cap))
  (hn:n+1<=2000000) (hbase:base<=w.heap.size)
  (h:∀v' w',w'.ownsRow base 66 1 v' (n+1) (vs++[.slice y len cap])->w.grownBy w' v.ownBlock->wpList prog ops Q rest (a.put o.dst v') w'):wpList prog ops Q (o::rest) a w:=by
 have hI:(prog.info? 66).map (fun i=>(i.zero,i.size,i.bytes))=some (some (.slice none 0 0),1,24):=by kernel_rfl
 obtain⟨i,hi,hz0,hz1,hz2⟩:=info_parts hI;refine wpList_append_own w hgd s x 159 ho base 66 i _ 1 24 underlying159 hi hz0 hz1 hz2 rfl (by decide) v n _ hs hown ⟨g',0,none⟩ 1 1 [.slice y len cap] hx rfl ?_ (fun u hu=>by simp at hu;subst hu;rfl) (by unfold maxLen;omega) (by omega) hbase ?_
 ·intro j u hj
  match j with
  | 0=>simp at hj;rw[<-hj,qi];exact hc
  |j+1=>simp at hj
 ·intro v' w' h1 h2 _
  exact h v' w' h1 h2
theorem qb7(ga gb:Nat)(y:Bool)(w:World)(hA:aN w ga [true])(hB:aN w gb [y]):Calls prog 134 #[.slice (some ⟨ga,0,none⟩) 1 1,.slice (some ⟨gb,0,none⟩) 1 1] w fun e w'=>e=.returned (.bool false)/\w'=w:=by
 have hca:=hA.cell1;have hcb:=hB.cell1;have hi1:=fun w'=>qr ga w'
 have hi2:=fun w'=>qr gb w'
 clear hA hB;go_enter func134,ntmps134
 go_wp2
 go_loopw [5,6] (fun m i wr=>m=.bool false/\∃k:Nat,k<=1/\i=.int .i64 k/\wr=w) (fun _ i _=>1-(intOf i).toNat)
 case atStart=>exact⟨rfl,0,Nat.zero_le _,rfl,rfl⟩
 case round=>
  obtain⟨rfl,k,hk,rfl,rfl⟩:=hrel;by_cases hlt:k<1
  ·obtain rfl:k=0:=by omega
   cases y <;>
   ·go_wp2
    go_roundw
    case rel=>exact⟨rfl,1,by omega,by go_num,trivial⟩
    case measure=>simp[intOf]
  ·obtain rfl:k=1:=by omega
   go_wp2;go_ret
   exact⟨rfl,rfl⟩
theorem qb6(ga gb:Nat)(w:World)(hA:aN w ga [false])(hB:aN w gb [false]):Calls prog 134 #[.slice (some ⟨ga,0,none⟩) 1 1,.slice (some ⟨gb,0,none⟩) 1 1] w fun e w'=>(∃b,e=.returned (.bool b))/\w'=w:=by
 have hca:=hA.cell1;have hcb:=hB.cell1;have hi1:=fun w'=>qr ga w'
 have hi2:=fun w'=>qr gb w'
 clear hA hB;go_enter func134,ntmps134
 go_wp2
 go_loopw [5,6] (fun m i wr=>m=.bool false/\∃k:Nat,k<=1/\i=.int .i64 k/\wr=w) (fun _ i _=>1-(intOf i).toNat)
 case atStart=>exact⟨rfl,0,Nat.zero_le _,rfl,rfl⟩
 case round=>
  obtain⟨rfl,k,hk,rfl,rfl⟩:=hrel;by_cases hlt:k<1
  ·obtain rfl:k=0:=by omega
   go_wp2
   go_roundw
   case rel=>exact⟨rfl,1,by omega,by go_num,trivial⟩
   case measure=>simp[intOf]
  ·obtain rfl:k=1:=by omega
   go_wp2;go_ret
   exact⟨⟨_,rfl⟩,rfl⟩
theorem q9C(ga gb:Nat)(w:World)(hA:aN w ga [false])(hB:aN w gb [true]):Calls prog 134 #[.slice (some ⟨ga,0,none⟩) 1 1,.slice (some ⟨gb,0,none⟩) 1 1] w fun e w'=>(∃b,e=.returned (.bool b))/\w'=w.setCell ⟨ga,0,none⟩ (.bool true):=by
 have hca:=hA.cell1;have hcb:=hB.cell1;have hfz:=hA.fz 0;have hi1:=fun w'=>qr ga w'
 have hi2:=fun w'=>qr gb w'
 clear hA hB;go_enter func134,ntmps134
 go_wp2
 go_loopw [5,6] (fun m i wr=>∃k:Nat,k<=1/\i=.int .i64 k/\(∃b,m=.bool b)/\Hid (k=0->wr=w)/\Hid (k=1->wr=w.setCell ⟨ga,0,none⟩ (.bool true))) (fun _ i _=>1-(intOf i).toNat)
 case atStart=>exact⟨0,Nat.zero_le _,rfl,⟨_,rfl⟩,fun _=>rfl,fun h=>absurd h (by decide)⟩
 case round=>
  obtain⟨k,hk,rfl,⟨b,rfl⟩,H0,H1⟩:=hrel;by_cases hlt:k<1
  ·obtain rfl:k=0:=by omega
   obtain rfl:=H0.out rfl
   clear H0 H1;go_wp2
   go_roundw
   case rel=>exact⟨1,by omega,by go_num,⟨_,rfl⟩,fun h=>absurd h (by decide),fun _=>trivial⟩
   case measure=>simp[intOf]
  ·obtain rfl:k=1:=by omega
   have HX:Hid _:=H1.out rfl;clear H0 H1;go_wp2;go_ret
   exact⟨⟨_,rfl⟩,HX.out⟩
theorem qcf(ga ge ec gr:Nat)(c:Bool)(w:World)(hA:aN w ga [true])(hE:w.cell? ⟨ge,0,none⟩=some (.slice (some ⟨gr,0,none⟩) 1 1))(hR:aN w gr [c]):Calls prog 133 #[.slice (some ⟨ga,0,none⟩) 1 1,.slice (some ⟨ge,0,none⟩) 1 ec] w fun e w'=>e=.returned (.tuple #[])/\w'=w:=by
 have hca:=hA.cell1;have hj:=qb7 ga gr c w hA hR;have hi1:=fun w'=>qr ga w'
 have hi2:=fun w'=>Dz ge ec w'
 clear hA hR;go_enter func133,ntmps133
 go_wp2
 go_loopw [4] (fun m wr=>∃b:Bool,m=.bool b/\wr=w) (fun m _=>match m with | .bool true=>1|_=>0)
 case atStart=>exact⟨true,rfl,rfl⟩
 case round=>
  obtain⟨b,rfl,rfl⟩:=hrel
  cases b with
  |false=>
   go_wp2
   go_end0
   exact⟨rfl,rfl⟩
  |true=>
   go_wp2
   go_loopw [4,5] (fun m i w9=>m=.bool false/\∃k:Nat,k<=1/\i=.int .i64 k/\w9=wr) (fun _ i _=>1-(intOf i).toNat)
   case atStart=>exact⟨rfl,0,Nat.zero_le _,rfl,rfl⟩
   case round=>
    obtain⟨rfl,k,hk,rfl,rfl⟩:=hrel;by_cases hlt:k<1
    ·obtain rfl:k=0:=by omega
     go_wp2_with fail
     (with_reducible refine hj.mono ?_)
     rintro e w1 ⟨rfl,rfl⟩
     go_wp2
     go_roundw
     case rel=>exact⟨rfl,1,by omega,by go_num,trivial⟩
     case measure=>simp[intOf]
    ·obtain rfl:k=1:=by omega
     go_wp2
     go_roundw
     case rel=>exact⟨false,rfl,trivial⟩
     case measure=>simp
end Go.Proofs.YtoioiellaomonaaGreatDoor
