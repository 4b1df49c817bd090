import Derived.Defers
import Derived.Recover
import Derived.Deep.RegionHeld2
import Derived.Test.YtoioiellaomonaaGreatDoorZ16
import Derived.Test.YtoioiellaomonaaGreatDoorZ18
set_option maxRecDepth 100000
set_option maxHeartbeats 16000000
namespace Go.Proofs.YtoioiellaomonaaGreatDoor
open Go.RowKit Go.Maps Proofs.Tryz
variable {T0 S:Tr}{M M2:Mt}{k c p x bn bl n b0 b1 b2 b3 b i E mn g:Nat}{w w' w2 wr w1:World}{F F' F2 G:Nat->Prop}{a:Option Addr}{l met:List Nat}{vs v vm:Value}{aj i2:List It}{T:TypeId}{R:Rt}{y:ByteArray}{bs:List Bool}
theorem qfc(t0:Qh T0)(kS:KT S)(hS:jD T0 S)(x:Nat)(hk:M[k]? =some S.flat):eu aV (lY (M.getD k [])) x M=bK S x M:=by
 have e:M.getD k []=S.flat:=by rw[List.getD_eq_getElem?_getD,hk];rfl
 rw[e,GZ kS.wf];exact congrFun (oN kS (Qd t0.sz hS).2) M
structure IU(w:World)(F:Nat->Prop)(a:Option Addr)(c:Nat)(ks:List Nat):Prop where
 sl:MF w a ks.length c ks
 nf:∀k,k<ks.length->¬F (aG a k).block
theorem IU.fr{ks:List Nat}(h:IU w F a c ks)(fr:Fr w w' F F'):IU w' F' a c ks:=⟨fr.lq h.sl h.nf,fun k hk=>fr.out (h.nf k hk) (h.sl.blk k hk)⟩
structure LH(w:World)(F:Nat->Prop)(M:Mt)(a:Option Addr)(c:Nat)(l:List Nat):Prop where
 us:US w F a l.length c l
 len:l.length<=1024
 bd:jJ l M.length
theorem LH.fr{w w':World}{F F':Nat->Prop}{M M':Mt}{a:Option Addr}{c:Nat}{l:List Nat}(h:LH w F M a c l)(fr:Fr w w' F F')(hM:M <+: M'):LH w' F' M' a c l:=⟨h.us.fr fr,h.len,h.bd.mono hM.length_le⟩
theorem LH.lst(h:LH w F M a c l)(hg:dM M):nN l:=⟨yU h.bd hg.few,h.len⟩
theorem qgs{s m:Nat}(hm:m<=64)(h:∀k,s.testBit k=true->k<m):∀k∈aY s,k<m:=(fq hm h (· < m)).2 h
theorem q9i(xq:x<256)(h:gB T0 p vs x bn bl w F aj M)(hT:fK w)(EG:¬F yD)(a:Option Addr)(c:Nat)(l:List Nat)(hL:LH w F M a c l)(t0:Qh T0):
  Calls prog 53 #[iM p x bn bl,.slice a l.length c] w (fun e w'=>cO (gB T0 p vs x bn bl) w F aj M (stepM aV x l [] M) e w'/\rM w w' e):=by
 have hb:=qd w (cu p x bn bl);have hO:=(qs T0 p vs x bn bl).up h hb;have hg:dM M:=by obtain⟨_,_,_,_,_,hr⟩:=h;exact hr.pg.good
 have hlt:=(qs T0 p vs x bn bl).lt h;have r7:Hid (pO T0 p vs x bn bl w F aj M w.heap.size (w.alloc (cu p x bn bl)) F aj M):=⟨hO,Fr.au hb,List.prefix_refl _,List.prefix_refl _,hg,(dO w _).1,fun e=>by have:=hlt _ e;omega,hT.up hb,EG⟩
 have Nh:Hid (LH (w.alloc (cu p x bn bl)) F M a c l):=hL.fr (Fr.au hb) (List.prefix_refl _);have U9:Hid (LH (w.alloc (cu p x bn bl)) F M none 0 []):=⟨mh _ _,by simp,BF false _⟩
 have HT0:=aX t0;have hidx:=fun (i:Nat) (w:World) (h:i<l.length)=>hL.us.sl.idx l.length i w h bZ
 have hl1:l.length<=1024:=hL.len;have hx8':=xq;obtain⟨R,hR⟩:∃R,R=stepM aV x l [] M:=⟨_,rfl⟩
 have HR0:Hid (R=stepM aV x (l.drop 0) [] M):=by rw[List.drop_zero];exact hR
 rw[<-hR];obtain⟨Q,hQ⟩:∃Q:Ending->World->Prop,Q=fun e w'=>cO (gB T0 p vs x bn bl) w F aj M R e w'/\rM w w' e:=⟨_,rfl⟩
 have HQ:Hid (∀e w',cO (gB T0 p vs x bn bl) w F aj M R e w'->rM w w' e->Q e w'):=fun e w' h h2=>by rw[hQ];exact⟨h,h2⟩
 have HW0:Hid (∀w',rM w w' (.returned (.slice none 0 0))):=fun w' q n d h=>by injection h with h;injection h with h1 h2 h3;exact⟨fun k hk=>by omega,fun k hk=>by omega⟩
 rw[<-hQ];clear h hT EG hL t0 hb hO hg hlt hR hQ;obtain⟨n,hn⟩:∃n,n=l.length:=⟨_,rfl⟩
 have Rf:=aX hn;rw[<-hn]at hidx hl1 ⊢;clear hn;unfold iM;go_enter func53,ntmps53
 go_wp2
 go_loopw [5,13] (fun v i wr=>∃(k:Nat) (q5:Option Addr) (d5:Nat) (out:List Nat) (Fj:Nat->Prop) (ij:List It) (Mj:Mt),k<=n/\i=.int .i64 k/\v=.slice q5 out.length d5/\Hid (pO T0 p vs x bn bl w F aj M w.heap.size wr Fj ij Mj)/\Hid (LH wr Fj Mj q5 d5 out)/\Hid (LH wr Fj Mj a c l)/\Hid (R=stepM aV x (l.drop k) out Mj)/\Hid (rM w wr (.returned (.slice q5 out.length d5)))) (fun _ i _=>n-(intOf i).toNat)
 case atStart=>exact⟨0,none,0,[],F,aj,M,Nat.zero_le _,rfl,rfl,r7,U9,Nh,HR0,HW0.out _⟩
 case round=>
  clear r7 U9 Nh HR0 HW0;obtain⟨k,q5,d5,out,Fj,ij,Mj,hk,rfl,rfl,Gn,HO,rQ,HR,Va⟩:=hrel;by_cases hlt:k<n
  ·have hkl:k<l.length:=by have:=Rf.out;omega
   have hc:=rQ.out.us.sl.cell k hkl;have hix:=fun w'=>hidx k w' hlt
   have hset:(iU l).getD k 0=((l[k]:Nat):Int):=by simp[iU,List.getD_eq_getElem?_getD,hkl]
   rw[hset]at hc;have Gp:l[k]<2 ^ 64:=(rQ.out.lst Gn.out.good).sm _ (List.getElem_mem hkl);have HIT:Hid (∀y∈aY l[k],y<Mj.length):=qgs Gn.out.good.few (rQ.out.bd _ (List.getElem_mem hkl))
   have Ku:Hid (R=bindM (jI aV x (aY l[k]) [0] Mj) fun m M1=>bindM (bF false out m M1) fun o M2=>stepM aV x (l.drop (k+1)) o M2):=by
    show _=_
    rw[HR.out,List.drop_eq_getElem_cons hkl,stepM]
   have jt:=rS wr;have hil:(aY l[k]).length<=64:=eC _;generalize l[k]=st at *;clear HR hset
   go_wp2_with fail
   refine jt.mono ?_
   rintro e w1 ⟨q1,C1,rfl,lZ,hb1,hf1⟩
   have m1:=Gn.out.up hb1;have Gq:Hid (LH w1 Fj Mj q1 C1 [0]):=⟨⟨lZ,fun k hk hF=>by have:=hf1 k hk;have:=(qs T0 p vs x bn bl).lt Gn.out.obj _ hF;omega⟩,by simp,Zj _⟩
   have uw:Hid (LH w1 Fj Mj q5 d5 out):=HO.out.fr (Fr.au hb1) (List.prefix_refl _);have se:Hid (LH w1 Fj Mj a c l):=rQ.out.fr (Fr.au hb1) (List.prefix_refl _);have ji:=q93 st Gp w1 m1.tab;have Iu:Hid _:=m1;clear jt lZ hb1 hf1 Gn HO rQ m1 hc hix;generalize aY st=ks at *
   go_wp2_with fail
   refine ji.mono ?_
   rintro e w2 ⟨ia,ic,rfl,hI,hb2,hf2⟩
   have MB:Hid _:=Iu.out.up hb2;have Kv:Hid (IU w2 Fj ia ic ks):=⟨hI,fun k hk hF=>by have:=hf2 k hk;have:=(qs T0 p vs x bn bl).lt Iu.out.obj _ hF;omega⟩
   have Rh:Hid (LH w2 Fj Mj q1 C1 [0]):=Gq.out.fr (Fr.au hb2) (List.prefix_refl _);have l9:Hid (LH w2 Fj Mj q5 d5 out):=uw.out.fr (Fr.au hb2) (List.prefix_refl _);have HL2:Hid (LH w2 Fj Mj a c l):=se.out.fr (Fr.au hb2) (List.prefix_refl _);have Zm:=fun (i:Nat) (w:World) (h:i<ks.length)=>hI.idx ks.length i w h bZ
   have sg:Hid (R=bindM (jI aV x (ks.drop 0) [0] Mj) fun m M1=>bindM (bF false out m M1) fun o M2=>stepM aV x (l.drop (k+1)) o M2):=by rw[List.drop_zero];exact Ku.out
   clear ji hI hb2 hf2 Iu Gq uw se Ku;go_wp2;generalize XE:ks.length=ln at *;have pX:=aX XE;clear XE
   go_loopw [8,21] (fun v i w3=>∃(j:Nat) (q8:Option Addr) (d8:Nat) (al:List Nat) (Fi:Nat->Prop) (ii:List It) (Mi:Mt),j<=ln/\i=.int .i64 j/\v=.slice q8 al.length d8/\Hid (pO T0 p vs x bn bl w F aj M w.heap.size w3 Fi ii Mi)/\Hid (Mj <+: Mi)/\Hid (LH w3 Fi Mi q8 d8 al)/\Hid (LH w3 Fi Mi q5 d5 out)/\Hid (LH w3 Fi Mi a c l)/\Hid (IU w3 Fi ia ic ks)/\Hid (R=bindM (jI aV x (ks.drop j) al Mi) fun m M1=>bindM (bF false out m M1) fun o M2=>stepM aV x (l.drop (k+1)) o M2)) (fun _ i _=>ln-(intOf i).toNat)
   case atStart=>exact⟨0,q1,C1,[0],Fj,ij,Mj,Nat.zero_le _,rfl,rfl,MB,List.prefix_refl _,Rh,l9,HL2,Kv,sg⟩
   case round=>
    clear MB Rh l9 HL2 Kv sg;obtain⟨j,q8,d8,al,Fi,ii,Mi,hj,rfl,rfl,BX,Kw,Gq,HO,rQ,Kv,HR⟩:=hrel;by_cases sQ:j<ln
    ·have hjk:j<ks.length:=by have:=pX.out;omega
     have hcI:=Kv.out.sl.cell j hjk;have Zn:=fun w'=>Zm j w' sQ
     have hsI:(iU ks).getD j 0=((ks[j]:Nat):Int):=by simp[iU,List.getD_eq_getElem?_getD,hjk]
     rw[hsI]at hcI;have IG:ks[j]<Mi.length:=Nat.lt_of_lt_of_le (HIT.out _ (List.getElem_mem hjk)) Kw.out.length_le;obtain⟨ma,mnn,Zo,mg,mo,mj,S,c5,hidM,cM,II,kS,hS,yE⟩:=BX.out.met ks[j] IG
     have Ku:Hid (R=bindM (bK S x Mi) fun a' M1=>bindM (bF true al a' M1) fun b' M2=>bindM (jI aV x (ks.drop (j+1)) b' M2) fun m M1=>bindM (bF false out m M1) fun o M2=>stepM aV x (l.drop (k+1)) o M2):=by
      show _=_
      rw[HR.out,List.drop_eq_getElem_cons hjk,jI,qfc HT0.out kS hS x yE]
      cases bK S x Mi with
      |none=>rfl
      |some z=>
       obtain⟨z1,z2⟩:=z
       show bindM (bindM (bF true al z1 z2) _) _=bindM (bF true al z1 z2) _
       cases bF true al z1 z2 with
       |none=>rfl
       |some y=>rfl
     have m0:=BX.out.up (Below.refl _ _).drew;have ja:=q8d HT0.out.kt xq S kS hS _ Fi ii Mi mj m0.obj II;have zG:=aX kS;have c5d:(wr.drew).cell? ⟨p,5,none⟩=some (.slice ma mnn Zo):=c5;have cMd:(wr.drew).cell? ⟨mg,mo,none⟩=some (.int .i64 mj):=cM;have dL:Hid (∀w':World,w'.heap[w.heap.size]? =some (cu p x bn bl)->w'.cell? ⟨w.heap.size,0,none⟩=some (.pointer (some ⟨p,0,none⟩))/\w'.cell? ⟨w.heap.size,1,none⟩=some (.int .u8 x)/\w'.cell? ⟨w.heap.size,2,none⟩=some (.map (some bn))/\w'.cell? ⟨w.heap.size,3,none⟩=some (.map (some bl))):=fun w' e=>⟨qc e 0,qc e 1,qc e 2,qc e 3⟩
     have hk0:=dL.out _ m0.rb;have dP:=dL.out _ BX.out.rb;unfold iM at ja;generalize ks[j]=kj at *;clear HR hsI II kS hS yE IG
     go_wp2_with fail
     obtain⟨e0,e1,e2,e3⟩:=hk0;obtain⟨g0,g1,g2,g3⟩:=dP
     go_region_with (first
      | (revert ja;intro ja;go_at_call 80;(with_reducible refine ja.mono ?_);rintro e w4 ⟨F4,i4,nK,rV,⟨L4,M4,q4,d4,hs4,rfl,BQ,hO4⟩|⟨hs4,rfl,M4,tN,hO4⟩⟩;(case inr=>exact⟨rfl,HQ.out _ _ (m0.bad (by rw[Ku.out,hs4];first|done|rfl) nK rV tN hO4) Y6⟩);have l4:=zD m0.good zG.out hs4;have m4:=m0.step nK rV hO4 l4.pre l4.good;have Zp:Fr wr w4 Fi F4:=((Fr.au (Below.refl _ _).drew).trans nK);have a4:=Gq.out.fr Zp l4.pre;have jb:=qL (qs T0 p vs x bn bl) true m4.obj a4.us BQ (a4.lst m4.good) l4.lst;unfold vk at jb;simp only[if_true]at jb)
      | (revert jb;intro jb;go_at_call 76;(with_reducible refine jb.mono ?_);rintro e w5 ⟨F5,i5,yA,xZ,⟨L5,M5,q6,d6,hs5,rfl,Na,BU⟩|⟨hs5,rfl,M5,DY,BU⟩⟩;(case inr=>exact⟨rfl,HQ.out _ _ (m4.bad (by rw[Ku.out,hs4];show bindM (bF true al L4 M4) _=none;rw[hs5];rfl) yA xZ DY BU) Y6⟩);have l5:=U6 m4.good a4.bd l4.bd hs5;have m5:=m4.step yA xZ BU l5.pre l5.good;have Gs:Fr wr w5 Fi F5:=(Zp.trans yA);have Zq:Hid (R=bindM (jI aV x (ks.drop (j+1)) L5 M5) fun m M1=>bindM (bF false out m M1) fun o M2=>stepM aV x (l.drop (k+1)) o M2):=(by show _=_;rw[Ku.out,hs4];show bindM (bF true al L4 M4) _=_;rw[hs5];rfl))
      |fail)
     all_goals
      have HM5:Hid _:=m5;have Vb:Mi <+: M5:=l4.pre.trans l5.pre;have Zr:Hid (Mj <+: M5):=Kw.out.trans Vb;have Zt:Hid (LH w5 F5 M5 q6 d6 L5):=⟨Na,l5.len,l5.bd⟩;have Gl:Hid (LH w5 F5 M5 q5 d5 out):=HO.out.fr Gs Vb;have Jj:Hid (LH w5 F5 M5 a c l):=rQ.out.fr Gs Vb;have HI5:Hid (IU w5 F5 ia ic ks):=Kv.out.fr Gs;clear ja jb BX Kw Gq HO rQ Kv Ku m0 m4 m5 l4 l5 nK yA Zp Gs BQ Na hO4 BU hs4 hs5 e0 e1 e2 e3 g0 g1 g2 g3 c5 cM c5d cMd hcI Zn a4 Vb;go_wp2
      go_roundw
      case rel=>exact⟨j+1,q6,d6,L5,F5,i5,M5,by omega,by go_num,rfl,HM5,Zr,Zt,Gl,Jj,HI5,Zq⟩
      case measure=>simp[intOf]<;>omega
    ·obtain rfl:j=ln:=by omega
     have Zu:Hid (R=bindM (bF false out al Mi) fun o M2=>stepM aV x (l.drop (k+1)) o M2):=by
      show _=_
      rw[HR.out,List.drop_of_length_le (by have:=pX.out;omega)]
      rfl
     have jo:=qeB (qs T0 p vs x bn bl) false BX.out.obj HO.out.us Gq.out.us (HO.out.lst BX.out.good) (Gq.out.lst BX.out.good);unfold vk at jo;simp only[Bool.false_eq_true,if_false]at jo
     clear HR
     go_wp2_with fail
     refine jo.mono ?_
     rintro e w6 ⟨⟨F6,i6,Ky,sq,⟨L6,M6,q7,d7,hs6,rfl,sr,Kz⟩|⟨hs6,rfl,M6,Zv,Kz⟩⟩,hnw⟩
     case inr=>exact⟨rfl,HQ.out _ _ (BX.out.bad (by rw[Zu.out,hs6];rfl) Ky sq Zv Kz) Y6⟩
     have Zw:Hid (rM w w6 (.returned (.slice q7 L6.length d7))):=hnw.at BX.out.fr.size;have l6:=U6 BX.out.good HO.out.bd Gq.out.bd hs6;have AV:Hid _:=BX.out.step Ky sq Kz l6.pre l6.good;have QV:Hid (LH w6 F6 M6 q7 d7 L6):=⟨sr,l6.len,l6.bd⟩;have Fh:Hid (LH w6 F6 M6 a c l):=rQ.out.fr Ky l6.pre;have Zq:Hid (R=stepM aV x (l.drop (k+1)) L6 M6):=by show _=_;rw[Zu.out,hs6];rfl
     clear jo BX Kw Gq HO rQ Kv Zu l6 Ky sr Kz hs6 hnw;go_wp2
     go_roundw
     case rel=>exact⟨k+1,q7,d7,L6,F6,i6,M6,by omega,by go_num,rfl,AV,QV,Fh,Zq,Zw⟩
     case measure=>simp[intOf]<;>omega
  ·obtain rfl:k=n:=by omega
   have HE:Hid (Q (.returned (.slice q5 out.length d5)) wr):=HQ.out _ _ ⟨Fj,ij,Gn.out.fr,Gn.out.hi,Or.inl ⟨out,Mj,q5,d5,by rw[HR.out,List.drop_of_length_le (by have:=Rf.out;omega)];rfl,rfl,HO.out.us,Gn.out.obj⟩⟩ Va.out
   clear Gn HO rQ HR Va;go_wp2;exact HE.out
def Bh(w:World)(b:Nat)(e:Int):Prop:=w.heap[b]? =some (.cells #[.int .i64 e] 28 (0,0))
theorem qbl(b:Nat)(e0:Int)(older:List PanicEntry)(w:World)(h1:Bh w b e0):
  CallsD prog 74 #[.pointer (some ⟨b,0,none⟩)] (.panicking ({ v:=.iface 126 (.int .i64 9),recovered:=false }::older)) w fun e u' w'=>
   e=.returned (.tuple #[])/\u'=.panicking ({ v:=.iface 126 (.int .i64 9),recovered:=true }::older)/\Bh w' b 9/\w.grownBy w' (some b):=by
 refine callsD_of_wpS func74 rfl fun c₀ cs hu=>?_
 have hta:∀w,(Instr.typeAssert (.iface 126 (.int .i64 9)) 20 126 true).run prog w=.ok (.tuple #[.int .i64 9,.bool true]) w:=fun w=>by
  simp[Instr.typeAssert,go_sem]
 have f0:w.cell? ⟨b,0,none⟩=some (.int .i64 e0):=qc h1 0;have g0:w.frozen? ⟨b,0,none⟩=false:=frozen_of_row w b 0 _ _ h1;have lb:b<w.heap.size:=(lC h1).1
 have h2:=heap_setCell_same w b 0 _ _ (.int .i64 9) h1;have HR:Hid (Bh (w.setCell ⟨b,0,none⟩ (.int .i64 9)) b 9/\w.grownBy (w.setCell ⟨b,0,none⟩ (.int .i64 9)) (some b)):=⟨h2,⟨rfl,rfl,rfl,by simp,fun k hk hne=>Below.heap_setCell _ _ _ _ (fun e=>hne (congrArg some e))⟩⟩
 apply wpS_seq
 apply wpS_region
 simp[wpOpsS,go_sem,recoverD,hu,ntmps74,Exit.thenS]
 refine wpS_of_wp ?_
 go_wp2;simp[bodyPostS,results,results74]
 exact HR.out
theorem qbk(b:Nat)(w:World):
  CallsD prog 74 #[.pointer (some ⟨b,0,none⟩)] .returning w fun e u' w'=>e=.returned (.tuple #[])/\u'=.returning/\w'=w:=by
 refine callsD_of_wpS func74 rfl fun c₀ cs hu=>?_
 apply wpS_seq
 apply wpS_region
 simp[wpOpsS,go_sem,recoverD,hu,ntmps74,Exit.thenS]
 refine wpS_of_wp ?_
 go_wp2
 cases c₀
 simp_all [bodyPostS,results,results74]
theorem sw(fid:Nat)(caps:Array Value)(w:World)(hE:lD fid)(P P':World->Prop)
  (hP:∀w1 w2 b,P w1->w1.grownBy w2 (some b)->b=w.heap.size->P w2) (hP':∀w1 w2 b,P' w1->w1.grownBy w2 (some b)->b=w.heap.size->P' w2)
  (jw:∀w0,w0=w.alloc (.cells #[.int .i64 0] 28)->Calls prog fid caps w0 fun e w'=>(e=.returned (.tuple #[])/\P w'/\Bh w' w.heap.size 0)\/(e=.panicked gK/\P' w'/\Bh w' w.heap.size 0)):
  Calls prog 45 #[.func (.func fid) #[] caps] w fun e w'=>(e=.returned (.int .i64 0)/\P w')\/(e=.returned (.int .i64 9)/\P' w'):=by
 have j0:=jw _ rfl;unfold lD at hE;clear jw;go_enter_defers func45,ntmps45
 go_wp2_with fail
 refine j0.mono ?_
 rintro e w1 (⟨rfl,hp,Bj⟩|⟨rfl,hp,Bj⟩)
 ·have f0:w1.cell? ⟨w.heap.size,0,none⟩=some (.int .i64 0):=qc Bj 0
  have g0:w1.frozen? ⟨w.heap.size,0,none⟩=false:=frozen_of_row w1 _ 0 _ _ Bj;have HP:Hid _:=hp;have HE2:Hid _:=Bj;clear j0 hp Bj;go_wp2;have k2:=heap_setCell_same w1 w.heap.size 0 _ _ (.int .i64 0) HE2.out;have hg:w1.grownBy (w1.setCell ⟨w.heap.size,0,none⟩ (.int .i64 0)) (some w.heap.size):=⟨rfl,rfl,rfl,by simp,fun k hk hne=>Below.heap_setCell _ _ _ _ (fun e=>hne (congrArg some e))⟩
  have hp2:=hP w1 _ _ HP.out hg rfl;refine leaves_cons (f:=74) (args:=#[.pointer (some ⟨w.heap.size,0,none⟩)]) (by simp) (by simp[go_sem]) ?_
  refine (qbk w.heap.size _).mono ?_
  rintro e u' w3 ⟨rfl,rfl,rfl⟩
  have f1:(w1.setCell ⟨w.heap.size,0,none⟩ (.int .i64 0)).cell? ⟨w.heap.size,0,none⟩=some (.int .i64 0):=qc k2 0;generalize w1.setCell ⟨w.heap.size,0,none⟩ (.int .i64 0)=W at *;simp[Leaves,settle,results,results45,go_sem,f1]
  exact hp2
 ·refine leaves_cons (f:=74) (args:=#[.pointer (some ⟨w.heap.size,0,none⟩)]) (by simp) (by simp[go_sem]) ?_
  refine (qbl w.heap.size 0 [] w1 Bj).mono ?_
  rintro e u' w2 ⟨rfl,rfl,Ri,hg2⟩
  have f1:w2.cell? ⟨w.heap.size,0,none⟩=some (.int .i64 9):=qc Ri 0;have hp2:=hP' w1 w2 _ hp hg2 rfl;simp[Leaves,settle,results,results45,go_sem,f1]
  exact hp2
theorem qio {T0 : Tr} {p : Nat} {vs : Value} (x : Nat) {w w' : World} {F : Nat → Prop} {aj : List It} {M : Mt} {bn bl : Nat} (h : iE T0 w F p vs aj M) (hb : Below w.heap.size w w') (h1 : lH w' bn [] (fun _ => none)) (h2 : lH w' bl [] (fun _ => none)) (hne : bn ≠ bl) (n1 : w.heap.size ≤ bn) (n2 : w.heap.size ≤ bl):
    gB T0 p vs x bn bl w' (fun k=> F k ∨ k = bn ∨ k = bl) aj M ∧ Fr w w' F (fun k=> F k ∨ k = bn ∨ k = bl) :=
  ⟨⟨F, [], [], _, _, h.up hb, h1, h2, hne, fun e=> by have := h.lt _ e; omega, fun e=> by have := h.lt _ e; omega, fun k=> Iff.rfl, fun i v hv=> (by cases hv), fun i v hv=> (by cases hv)⟩,
   ⟨hb.os, hb.tape, hb.output, hb.size, fun k hk _=> hb.block k hk, fun k hk=> by
    rcases hk with e | e | e
    · exact Or.inl e
    · right; omega
    · right; omega⟩⟩
theorem q9h(x:Nat)(h:iE T0 w F p vs aj M):
  Calls prog 52 #[.pointer (some ⟨p,0,none⟩),.int .u8 x] w fun e w'=>∃bn bl,e=.returned (iM p x bn bl)/\gB T0 p vs x bn bl w' (fun k=>F k\/k=bn\/k=bl) aj M/\Fr w w' F (fun k=>F k\/k=bn\/k=bl)/\Below w.heap.size w w':=by
 have HH:Hid _:=h;have hmm:=@run_makeMap prog;clear h;go_enter func52,ntmps52
 go_wp2;generalize hO:Obj.cells #[.pointer (some ⟨p,0,none⟩),.int .u8 x,.map (some (w.heap.size+1)),.map (some (w.heap.size+1+1))] 100=O
 have hb1:=qd w O;have hb2:=qd (w.alloc O) (.map #[] 0);have hb3:=qd ((w.alloc O).alloc (.map #[] 0)) (.map #[] 0);have hb:Below w.heap.size w (((w.alloc O).alloc (.map #[] 0)).alloc (.map #[] 0)):=qe (qe hb1 hb2) hb3;have z1:(w.alloc O).heap.size=w.heap.size+1:=by simp
 have z2:((w.alloc O).alloc (.map #[] 0)).heap.size=w.heap.size+1+1:=by simp
 have h1:lH (((w.alloc O).alloc (.map #[] 0)).alloc (.map #[] 0)) (w.heap.size+1) [] (fun _=>none):=by
  have:=rI (w.alloc O)
  rw[z1]at this;exact this.far (hb3.block _ (by omega))
 have h2:lH (((w.alloc O).alloc (.map #[] 0)).alloc (.map #[] 0)) (w.heap.size+1+1) [] (fun _=>none):=by
  have:=rI ((w.alloc O).alloc (.map #[] 0))
  rw[z2]at this;exact this
 have h0:(((w.alloc O).alloc (.map #[] 0)).alloc (.map #[] 0)).heap[w.heap.size]? =some O:=(hb3.block _ (by omega)).trans ((hb2.block _ (by omega)).trans (dO w O).1)
 clear hb3 z2;generalize ((w.alloc O).alloc (.map #[] 0)).alloc (.map #[] 0)=W at *;rw[<-hO]at h0;have e0:W.cell? ⟨w.heap.size,0,none⟩=some (.pointer (some ⟨p,0,none⟩)):=qc h0 0;have e1:W.cell? ⟨w.heap.size,1,none⟩=some (.int .u8 x):=qc h0 1;have e2:W.cell? ⟨w.heap.size,2,none⟩=some (.map (some (w.heap.size+1))):=qc h0 2;have e3:W.cell? ⟨w.heap.size,3,none⟩=some (.map (some (w.heap.size+1+1))):=qc h0 3;obtain⟨r1,r2⟩:=qio x HH.out hb h1 h2 (by omega) (by omega) (by omega)
 refine bodyPost_ret (v:=iM p x (w.heap.size+1) (w.heap.size+1+1)) (by simp[results,results52,go_sem,e0,e1,e2,e3,iM]) rfl ⟨_,_,rfl,r1,r2,hb⟩
theorem sx(h:iE T0 w F p vs aj M)(a:Option Addr)(c:Nat)(l:List Nat)(hU:fH w a l.length c l)(sm:Sm l)(hl:l.length<=1024):
  Calls prog 50 #[.pointer (some ⟨p,0,none⟩),.slice a l.length c] w fun e w'=>(∃b,e=.returned (.bool b)/\(b=true↔jJ l M.length))/\w'=w:=by
 obtain⟨G,mn,vm,met,hr,hF⟩:=h.ex;have c5:=hr.c5;obtain⟨ma,mc,rfl⟩:=qK hr.row;have hml:met.length=M.length:=hr.met.1;have hfew:=h.few;rw[hml]at c5;have hidx:=fun (i:Nat) (w:World) (h:i<l.length)=>hU.idx l.length i w h bZ
 have HC:Hid (∀i (h:i<l.length),w.cell? (aG a i)=some (.int .u64 (l[i]:Nat))):=fun i hi=>by
  have:=hU.cell i hi
  rw[show (iU l).getD i 0=((l[i]:Nat):Int) by simp[iU,List.getD_eq_getElem?_getD,hi]]at this
  exact this
 have IB:=aX sm;clear h hr hF hU sm hml;obtain⟨n,hn⟩:∃n,n=l.length:=⟨_,rfl⟩
 have Rf:=aX hn;rw[<-hn]at hidx hl ⊢;clear hn;generalize hm:M.length=m at *;clear hm;go_enter func50,ntmps50
 go_wp2
 go_loopw [9] (fun i wr=>∃k:Nat,k<=n/\i=.int .i64 k/\wr=w/\Hid (jJ (l.take k) m)) (fun i _=>n-(intOf i).toNat)
 case atStart=>exact⟨0,Nat.zero_le _,rfl,rfl,by show jJ _ _;rw[List.take_zero];exact BF false _⟩
 case round=>
  obtain⟨k,hk,rfl,rfl,HB⟩:=hrel;by_cases hlt:k<n
  ·have hkl:k<l.length:=by have:=Rf.out;omega
   have hc:=HC.out k hkl;have hix:=fun w'=>hidx k w' hlt
   have Gp:l[k]<2 ^ 64:=IB.out _ (List.getElem_mem hkl)
   have Dl:Hid (l[k]<2 ^ m->jJ (l.take (k+1)) m):=fun hx s hs j hj=>by
    rw[List.take_add_one,List.mem_append]at hs;rcases hs with hs|hs
    ·exact HB.out s hs j hj
    ·rw[kU hkl]at hs
     simp at hs
     subst hs
     exact Nat.lt_of_not_le fun hle=>by
      have:=Nat.testBit_lt_two_pow (Nat.lt_of_lt_of_le hx (Nat.pow_le_pow_right (by decide) hle))
      rw[hj]at this;cases this
   have Zx:Hid (¬l[k]<2 ^ m->¬jJ l m):=fun hx hb=>hx (Nat.lt_pow_two_of_testBit _ fun j hj=>by
    cases ht:l[k].testBit j with
    |false=>rfl
    |true=>have:=hb _ (List.getElem_mem hkl) j ht;omega)
   generalize l[k]=y at *;clear HB;by_cases hy:y<2 ^ m
   ·have hz:((y:Int) / 2 ^ m)=0:=by
     rw[show ((2:Int) ^ m)=((2 ^ m:Nat):Int) by simp,<-Int.natCast_ediv,Nat.div_eq_of_lt hy];rfl
    have Rj:Hid _:=Dl.out hy;clear Dl Zx;go_wp2
    go_roundw
    case rel=>exact⟨k+1,by omega,by go_num,by first|trivial|rfl,Rj⟩
    case measure=>simp[intOf]<;>omega
   ·have hz:((y:Int) / 2 ^ m==0)=false:=by
     rw[show ((2:Int) ^ m)=((2 ^ m:Nat):Int) by simp,<-Int.natCast_ediv,beq_eq_false_iff_ne]
     have:0<y / 2 ^ m:=Nat.div_pos (by omega) (Nat.pow_pos (by decide))
     omega
    have Rj:Hid _:=Zx.out hy;clear Dl Zx;go_wp2;go_ret
    exact⟨⟨false,rfl,⟨fun h=>(by cases h),fun h=>absurd h Rj.out⟩⟩,rfl⟩
  ·obtain rfl:k=n:=by omega
   have Rj:Hid (jJ l m):=by
    have:=HB.out
    rw[List.take_of_length_le (by have:=Rf.out;omega)]at this
    exact this
   clear HB;go_wp2;go_ret
   exact⟨⟨true,rfl,⟨fun _=>Rj.out,fun _=>rfl⟩⟩,rfl⟩
structure EH(w:World)(F:Nat->Prop)(p x:Nat)(a:Option Addr)(n c:Nat)(v:Value)(b0 b1 b2 b3:Nat):Prop where
 h0:w.heap[b0]? =some (.cells #[.pointer (some ⟨p,0,none⟩)] 55 (0,0))
 h1:w.heap[b1]? =some (.cells #[.slice a n c] 36 (0,0))
 h2:w.heap[b2]? =some (.cells #[.int .u8 x] 43 (0,0))
 h3:w.heap[b3]? =some (.cells #[v] 36 (0,0))
 n0:¬F b0
 n1:¬F b1
 n2:¬F b2
 n3:¬F b3
 d13:b1≠b3
theorem EH.fr(h:EH w F p x a n c v b0 b1 b2 b3)(fr:Fr w w' F F'):EH w' F' p x a n c v b0 b1 b2 b3 :=
 ⟨(qj h.h0 h.n0 fr).1,(qj h.h1 h.n1 fr).1,(qj h.h2 h.n2 fr).1,(qj h.h3 h.n3 fr).1,(qj h.h0 h.n0 fr).2,(qj h.h1 h.n1 fr).2,(qj h.h2 h.n2 fr).2,(qj h.h3 h.n3 fr).2,h.d13⟩
def Nj(p x b0 b1 b2:Nat)(a:Option Addr)(n c:Nat)(w':World):Prop:=w'.cell? ⟨b0,0,none⟩=some (.pointer (some ⟨p,0,none⟩))/\w'.cell? ⟨b2,0,none⟩=some (.int .u8 x)/\w'.cell? ⟨b1,0,none⟩=some (.slice a n c)
theorem EH.cells(h:EH w F p x a n c v b0 b1 b2 b3):Nj p x b0 b1 b2 a n c w:=⟨qc h.h0 0,qc h.h2 0,qc h.h1 0⟩
theorem EH.set(h:EH w F p x a n c v b0 b1 b2 b3)(u:Value):Nj p x b0 b1 b2 a n c (w.setCell ⟨b3,0,none⟩ u):=by
 have e0:b0≠b3:=fun e=>by
  have:=h.h0
  rw[e,h.h3]at this;injection this with this;injection this with _ this _;exact absurd this (by decide)
 have e2:b2≠b3:=fun e=>by
  have:=h.h2
  rw[e,h.h3]at this;injection this with this;injection this with _ this _;exact absurd this (by decide)
 exact⟨qc ((Below.heap_setCell _ _ _ _ e0).trans h.h0) 0,qc ((Below.heap_setCell _ _ _ _ e2).trans h.h2) 0,qc ((Below.heap_setCell _ _ _ _ h.d13).trans h.h1) 0⟩
def yF(T0:Tr)(p:Nat)(vs:Value)(w:World)(F:Nat->Prop)(aj:List It)(M:Mt)(b3:Nat)(R:Rt)(e:Ending)(w':World):Prop :=
 (e=.returned (.tuple #[])/\∃(L:List Nat) (M':Mt) (q:Option Addr) (d:Nat) (F':Nat->Prop) (aI:List It),R=some (L,M')/\w'.heap[b3]? =some (.cells #[.slice q L.length d] 36 (0,0))/\iE T0 w' F' p vs aI M'/\US w' F' q L.length d L/\¬F' b3/\aj <+: aI/\M <+: M'/\Fr w w' (fun k=>F k\/k=b3) F'/\(∀k,k<L.length->w.heap.size<=(aG q k).block)/\zo w' q L.length) \/
 (e=.panicked gK/\R=none/\∃(M':Mt) (F':Nat->Prop) (aI:List It),iE T0 w' F' p vs aI M'/\¬F' b3/\aj <+: aI/\M <+: M'/\Fr w w' (fun k=>F k\/k=b3) F'/\w'.heap[b3]? =w.heap[b3]?)
theorem qit(h:US w F a n c l)(hb:w.heap[b]? =some (.cells #[.slice none 0 0] T (0,0))):∀k,k<n->(aG a k).block≠b:=fun k hk e=>by
 have hc:=h.sl.cell k hk;unfold World.cell? at hc;rw[e,hb]at hc;simp at hc
 match ho:(aG a k).off,hc with
 | 0,hc=>simp at hc
 |j+1,hc=>simp at hc
theorem qgV{L:List Nat}{q:Option Addr}{d:Nat}(hR:R=some (L,M2))(h3:w2.heap[b3]? =some (.cells #[.slice none 0 0] 36 (0,0)))(n3:¬F2 b3)(fr:Fr w w2 F F2)(hp:aj <+: i2)(hM:M <+: M2)(hU:US w2 F2 q L.length d L)(hO:gB T0 p vs x bn bl w2 F2 i2 M2)(hnw:(∀k,k<L.length->w.heap.size<=(aG q k).block)/\zo w2 q L.length):
  yF T0 p vs w F aj M b3 R (.returned (.tuple #[])) (w2.setCell ⟨b3,0,none⟩ (.slice q L.length d)):=by
 obtain⟨F1,kn,kl,fn,fl,hr⟩:=hO;have st:∀k,k≠b3->(w2.setCell ⟨b3,0,none⟩ (.slice q L.length d)).heap[k]? =w2.heap[k]? := fun k hk=>Below.heap_setCell _ _ _ _ hk
 have hoff:=qit hU h3;have hsub:∀k,F1 k->F2 k:=fun k hk=>(hr.ff k).2 (Or.inl hk)
 refine Or.inl ⟨rfl,L,M2,q,d,F1,i2,hR,?_,hr.pg.far fun k hk=>st k (fun e=>n3 (e ▸ hsub k hk)),⟨?_,fun k hk e=>hU.nf k hk (hsub _ e)⟩,fun e=>n3 (hsub _ e),hp,hM,?_,hnw.1,hnw.2.far fun k hk=>st _ (hoff k hk)⟩
 ·rw[heap_setCell_same w2 b3 0 _ _ _ h3];rfl
 ·have hs:=hU.sl
  refine⟨hs.hlen,hs.hcap,hs.bd,hs.idx,fun k hk=>?_,fun k hk=>by simp;exact hs.blk k hk,hs.nn⟩
  have:=hs.cell k hk
  unfold World.cell? at this ⊢;rw[st _ (hoff k hk)];exact this
 ·exact⟨fr.os,fr.tape,fr.output,by simp;exact fr.size,fun k hk hF=>(st k fun e=>hF (Or.inr e)).trans (fr.keep k hk fun e=>hF (Or.inl e)),fun k hk=>(fr.foot k (hsub k hk)).imp Or.inl id⟩
theorem qgU(hR:R=none)(h3:w2.heap[b3]? =w.heap[b3]?)(n3:¬F2 b3)(fr:Fr w w2 F F2)(hp:aj <+: i2)(hM:M <+: M2)(hO:gB T0 p vs x bn bl w2 F2 i2 M2):
  yF T0 p vs w F aj M b3 R (.panicked gK) w2:=by
 obtain⟨F1,kn,kl,fn,fl,hr⟩:=hO;have hsub:∀k,F1 k->F2 k:=fun k hk=>(hr.ff k).2 (Or.inl hk)
 exact Or.inr ⟨rfl,hR,M2,F1,i2,hr.pg,fun e=>n3 (hsub _ e),hp,hM,fr.alike (fun k hk=>Or.inl hk) hsub,h3⟩
theorem q8i(xq:x<256)(h:iE T0 w F p vs aj M)(hT:fK w)(EG:¬F yD)(a:Option Addr)(c:Nat)(l:List Nat)(hL:LH w F M a c l)(b0 b1 b2 b3:Nat)(hV:EH w F p x a l.length c (.slice none 0 0) b0 b1 b2 b3):
  Calls prog 51 #[.pointer (some ⟨b0,0,none⟩),.pointer (some ⟨b2,0,none⟩),.pointer (some ⟨b1,0,none⟩),.pointer (some ⟨b3,0,none⟩)] w (yF T0 p vs w F aj M b3 (stepM aV x l [] M)):=by
 have KA:=hV.fr (Fr.au (F:=F) (Below.refl w.heap.size w).drew);have hk0:=KA.cells;have dP:=hV.cells;have jr:=q9h x (h.up (Below.refl w.heap.size w).drew);have HV:Hid _:=KA;have HT:Hid (fK w.drew):=hT.up (Below.refl _ _).drew;have HL:Hid (LH w.drew F M a c l):=hL.fr (Fr.au (Below.refl _ _).drew) (List.prefix_refl _);have MQ:=aX EG;have H0:Hid (Qh T0):=h.t0;have htl:Hid (yD<w.heap.size):=World.block_lt_of_cell? _ _ (hT 0 (by decide))
 obtain⟨R,hR⟩:∃R,R=stepM aV x l [] M:=⟨_,rfl⟩
 rw[<-hR];have HR:Hid _:=hR;obtain⟨Q,hQ⟩:∃Q:Ending->World->Prop,Q=yF T0 p vs w F aj M b3 R:=⟨_,rfl⟩
 have HQ:Hid (∀e w',yF T0 p vs w F aj M b3 R e w'->Q e w'):=fun e w' h=>by rw[hQ];exact h
 rw[<-hQ];clear h hT EG hL hV KA hR hQ;generalize hN:l.length=n at *;have HN:Hid _:=hN;clear hN;unfold Nj at *;unfold iM at jr;go_enter func51,ntmps51
 go_wp2_with fail
 go_region_held2 (fun w'=>w'.cell? ⟨b0,0,none⟩=some (.pointer (some ⟨p,0,none⟩))/\w'.cell? ⟨b2,0,none⟩=some (.int .u8 x)/\w'.cell? ⟨b1,0,none⟩=some (.slice a n c)) (first|exact hk0|exact dP|assumption|fail) (first
   | (revert jr;intro jr;go_at_call 52;(with_reducible refine jr.mono ?_);rintro e w1 ⟨bn,bl,rfl,iF,dU,hb1⟩;have hV1:=HV.out.fr dU;have hk1:=hV1.cells;unfold Nj at hk1;have js:=q9i xq iF (HT.out.up hb1) (dU.out MQ.out htl.out) a c l (HL.out.fr dU (List.prefix_refl _)) H0.out;rw[HN.out,<-HR.out]at js;unfold iM at js)
   | (revert js;intro js;go_at_call 53;(with_reducible refine js.mono ?_);rintro e w2 ⟨⟨F2,i2,dA,hp2,⟨L2,M2,q2,d2,hs2,rfl,iY,hO2⟩|⟨hs2,rfl,M2,iO,hO2⟩⟩,Zy⟩;(case inr=>exact⟨rfl,HQ.out _ _ (qgU hs2 (((hV1.fr dA).h3).trans HV.out.h3.symm) (hV1.fr dA).n3 (((Fr.au (Below.refl _ _).drew).trans dU).trans dA) hp2 iO hO2)⟩);have hV2:=hV1.fr dA;have hk2:=hV2.cells;unfold Nj at hk2;have hk3:=hV2.set (.slice q2 L2.length d2);unfold Nj at hk3;have HE:Hid (Q (.returned (.tuple #[])) (w2.setCell ⟨b3,0,none⟩ (.slice q2 L2.length d2))):=(HQ.out _ _ (qgV hs2 hV2.h3 hV2.n3 (((Fr.au (Below.refl _ _).drew).trans dU).trans dA) hp2 (Ud aV x l [] M M2 L2 HL.out.bd (HR.out.symm.trans hs2)).1 iY hO2 ((Zy.at ((Fr.au (Below.refl _ _).drew).trans dU).size) _ _ _ rfl)));have z2:w2.cell? ⟨b3,0,none⟩=some (.slice none 0 0):=qc hV2.h3 0;have z3:w2.frozen? ⟨b3,0,none⟩=false:=frozen_of_row w2 b3 0 _ _ hV2.h3)
   |fail)
 all_goals
  clear jr js;go_wp2
  go_end0
  exact HE.out
theorem sy(hM:∀f∈M,BP f)(nd:M.Nodup)(hi:i<M.length):wZ M (kM M[i])=some i:=by
 rw[YS hM (hM _ (List.getElem_mem hi)),List.findIdx?_eq_some_iff_getElem];refine⟨hi,by simp,fun j hj=>?_⟩
 intro e;have e':M[j]=M[i]:=by simpa using e
 have:=(List.getElem_inj nd).1 e'
 omega
theorem qfJ{j:Nat}(h:wZ M y=some j):∃hj:j<M.length,kM M[j]=y:=by
 unfold wZ at h;obtain⟨hj,h1,_⟩:=List.findIdx?_eq_some_iff_getElem.1 h;exact⟨hj,by simpa using h1⟩
def mY(M:Mt)(n i:Nat)(y:ByteArray):Option Nat:=(wZ M y).bind fun j=>if n<=j/\j<n+i then none else some j
theorem qfR(M:Mt)(n:Nat)(y:ByteArray):wZ M y=mY M n 0 y:=by
 unfold mY
 cases wZ M y with
 |none=>rfl
 |some j=>simp only[Option.bind_some];rw[if_neg (by omega)]
theorem qfQ(hM:∀f∈M,BP f)(nd:M.Nodup)(h:n+i<M.length)(y:ByteArray):(if y=kM M[n+i] then none else mY M n i y)=mY M n (i+1) y:=by
 unfold mY;by_cases e:y=kM M[n+i]
 ·rw[if_pos e,e,sy hM nd h]
  simp only[Option.bind_some]
  rw[if_pos (by omega)]
 ·rw[if_neg e]
  cases hp:wZ M y with
  |none=>rfl
  |some j=>
   obtain⟨hj,ht⟩:=qfJ hp;have:j≠n+i:=fun he=>e (by subst he;exact ht.symm)
   simp only[Option.bind_some]
   by_cases h1:n<=j/\j<n+i
   ·rw[if_pos h1,if_pos (by omega)]
   ·rw[if_neg h1,if_neg (by omega)]
theorem qf3(hM:∀f∈M,BP f)(nd:M.Nodup)(h:n+i<M.length):(mY M n i (kM M[n+i])).isSome=true:=by
 unfold mY;rw[sy hM nd h];simp only[Option.bind_some]
 rw[if_neg (by omega)];rfl
theorem qgE(hn:n<=M.length)(y:ByteArray):mY M n (M.length-n) y=wZ (M.take n) y:=by
 unfold mY wZ
 have e:M.findIdx? (fun f=>decide (kM f=y))=((M.take n).findIdx? fun f=>decide (kM f=y)).or (((M.drop n).findIdx? fun f=>decide (kM f=y)).map (· + (M.take n).length)):=by
  rw[<-List.findIdx?_append,List.take_append_drop]
 rw[e]
 cases h1:(M.take n).findIdx? fun f=>decide (kM f=y) with
 |some j=>
  have hj:=(List.findIdx?_eq_some_iff_getElem.1 h1).1
  rw[List.length_take]at hj;simp only[Option.some_or,Option.bind_some]
  rw[if_neg (by omega)]
 |none=>
  simp only[Option.none_or]
  cases h2:(M.drop n).findIdx? fun f=>decide (kM f=y) with
  |none=>rfl
  |some j=>
   have hj:=(List.findIdx?_eq_some_iff_getElem.1 h2).1
   rw[List.length_drop]at hj;simp only[Option.map_some,Option.bind_some,List.length_take]
   rw[if_pos (by omega)]
theorem q8r{w:World}{ops:Array Oper}{o:Oper}{a:Act}{K:Act->World->Prop}{Q:Exit->Act->World->Prop}{E:Prop}(hw:Region.wanted o (yielded ops a.tmps)=true)(m x:Operand)
  (ho:o.op=.call { callee:=.builtin .delete,args:=#[m,x],argTypes:=#[87,9] }) (b n:Nat) (f:ByteArray->Option Nat) (y:ByteArray) (hm:a.eval m=.map (some b)) (hx:a.eval x=.string y)
  (h:jA w b n f) (hy:xK y) (hf:(f y).isSome=true)
  (hK:∀w',jA w' b (n-1) (fun z=>if z=y then none else f z)->w.grownBy w' (some b)->K (a.put o.dst (.tuple #[])) w'):
  if Region.wanted o (yielded ops a.tmps)=true then Oper.wp prog o a w K Q else E:=by
 rw[if_pos hw];obtain⟨w',hr,h1,h2⟩:=h.drop hy hf o.type;unfold Oper.wp execOp;simp only[ho,resolve,invoke,builtin,Sem.run_bind,Sem.run_pure,Result.andThen_ok,List.map_toArray,List.map_cons,List.map_nil,hm,hx,hr]
 exact hK w' h1 h2
structure Gt(T0:Tr)(w wr:World)(G:Nat->Prop)(p mn:Nat)(vm vs:Value)(aj:List It)(met:List Nat)(M:Mt)(n k:Nat):Prop where
 po:kW T0 wr G p 89 (jV p mn vm vs) aj
 num:jA wr mn (met.length-k) (mY M n k)
 row:wr.ownsRow 0 3 1 vm met.length (iZ met)
 fr:Fr w wr (FQ G mn vm) (FQ G mn vm)
theorem Gt.c4(h:Gt T0 w wr G p mn vm vs aj met M n k):wr.cell? ⟨p,4,none⟩=some (.map (some mn))/\wr.cell? ⟨p,5,none⟩=some vm/\wr.frozen? ⟨p,5,none⟩=false/\G p:=by
 obtain⟨vi,mp,vt,hb,hg⟩:=h.po.blk;exact⟨qc hb 4,qc hb 5,frozen_of_row wr p 5 _ _ hb,hg⟩
theorem Gt.next{w2:World}{y:ByteArray}(h:Gt T0 w wr G p mn vm vs aj met M n k)(ng:¬G mn)(nv:∀q,vm.ownBlock=some q->¬G q)(ht:sW T0 wr.drew G p 89 (jV p mn vm vs) aj w1)
  (hn:jA w2 mn (met.length-k-1) (fun z=>if z=y then none else mY M n k z)) (hy:∀z,(if z=y then none else mY M n k z)=mY M n (k+1) z) (hg:w1.grownBy w2 (some mn)):
  Gt T0 w w2 G p mn vm vs aj met M n (k+1):=by
 have dU:Fr wr w1 G G:=(Fr.au (Below.refl _ _).drew).trans ht.2;obtain⟨es,cl,hmap⟩:=h.num.isMap;have hvn:vm.ownBlock≠some mn:=FN h.row hmap fun cs e=>by cases e
 have st:∀q,q<w1.heap.size->q≠mn->w2.heap[q]? =w1.heap[q]? := fun q hq hne=>hg.block q hq (fun e=>hne (by injection e))
 have hs1:=dU.size;refine⟨ht.1.far fun q hq=>st q (ht.1.lt q hq) (fun e=>ng (e ▸ hq)),?_,qz h.row fun q hq=>(st q (by have:=vP h.row q hq;omega) (fun e=>hvn (e ▸ hq))).trans (dU.keep q (vP h.row q hq) (nv q hq)),h.fr.trans ⟨hg.os.trans dU.os,hg.tape.trans dU.tape,hg.output.trans dU.output,Nat.le_trans dU.size hg.size,fun q hq hF=>(st q (by omega) (fun e=>hF (Or.inr (Or.inl e)))).trans (dU.keep q hq fun e=>hF (Or.inl e)),fun _ hq=>Or.inl hq⟩⟩
 rw[show met.length-(k+1)=met.length-k-1 by omega]
 exact hn.alike fun z _=>hy z
theorem qeJ{va:Option Addr}{vc L:Nat}(h:iE T0 w F p vs aj M)(hr:mM T0 w G p mn (.slice va L vc) vs aj met M)(hF:∀k,F k↔FQ G mn (.slice va L vc) k)(hL:met.length=L)(hn:n<=M.length)(hS:Gt T0 w wr G p mn (.slice va L vc) vs aj met M n (L-n)):
  ∃F',iE T0 (wr.setCell ⟨p,5,none⟩ (.slice va n vc)) F' p vs aj (M.take n)/\Fr w (wr.setCell ⟨p,5,none⟩ (.slice va n vc)) F F':=by
 have hml:=hr.met.1;have hrow:=hS.row;rw[hL]at hrow;obtain⟨va',vc',vb,e,_,hown,_,_,hob⟩:=UQ hrow (m:=n) (by omega)
 injection e with e1 _ e3;subst e1 e3;obtain⟨_,_,_,Bc⟩:=hS.c4;have KD:(Value.slice va n vc).ownBlock=(Value.slice va L vc).ownBlock:=hob;have st:∀k,k≠p->(wr.setCell ⟨p,5,none⟩ (.slice va n vc)).heap[k]? =wr.heap[k]? := fun k hk=>Below.heap_setCell _ _ _ _ hk
 have D5:(met.take n).length=n:=by rw[List.length_take];omega
 have IJ:(M.take n).length=n:=by rw[List.length_take];omega
 refine⟨FQ G mn (.slice va n vc),⟨by rw[IJ];have:=h.few;omega,h.nd.sublist (List.take_sublist _ _),fun f hf=>h.of f (List.mem_of_mem_take hf),G,mn,.slice va n vc,met.take n,⟨hS.po.oQ (j:=2) (.slice va n vc),?_,?_,⟨by rw[D5,IJ],fun q i hq=>?_⟩,hr.ng,fun q hq=>hr.nv q (KD ▸ hq)⟩,fun k=>Iff.rfl⟩,?_⟩
 ·rw[D5]
  exact qz hown fun q hq=>st q (fun e=>hr.nv q (KD ▸ hq) (e ▸ Bc))
 ·rw[D5]
  have h1:=hS.num;rw[show met.length-(L-n)=n by omega,show L-n=M.length-n by omega]at h1
  exact(h1.far (st mn (fun e=>hr.ng (e ▸ Bc)))).alike fun y _=>qgE hn y
 ·have sC:q<n:=by have:=(List.getElem?_eq_some_iff.1 hq).1;omega
  rw[List.getElem?_take,if_pos sC]at hq;obtain⟨S,h1,h2⟩:=hr.met.2 q i hq;exact⟨S,h1,by rw[List.getElem?_take,if_pos sC];exact h2⟩
 ·have fr:=hS.fr
  exact⟨fr.os,fr.tape,fr.output,by simp;exact fr.size,fun k hk hf=>(st k fun e=>hf ((hF k).2 (Or.inl (e ▸ Bc)))).trans (fr.keep k hk fun e=>hf ((hF k).2 e)),fun k hk=>by
   refine (fr.foot k ?_).imp (fun e=>(hF k).2 e) id
   rcases hk with e|e|e
   ·exact Or.inl e
   ·exact Or.inr (Or.inl e)
   ·exact Or.inr (Or.inr (KD ▸ e))⟩
theorem q7r(h:iE T0 w F p vs aj M)(n:Nat)(hn:n<=M.length):
  Calls prog 54 #[.pointer (some ⟨p,0,none⟩),.int .i64 n] w fun e w'=>e=.returned (.tuple #[])/\∃F',iE T0 w' F' p vs aj (M.take n)/\Fr w w' F F':=by
 obtain⟨G,mn,vm,met,hr,hF⟩:=h.ex;have hml:=hr.met.1;obtain⟨va,vc,vb,rfl,hpre,_,hcut,_,_⟩:=UQ hr.row (m:=n) (by omega)
 have HH:Hid _:=h;have HRR:Hid _:=hr;have HF:Hid _:=hF;have JJ:Hid (Gt T0 w w G p mn (.slice va met.length vc) vs aj met M n 0):=⟨hr.po,by rw[Nat.sub_zero];exact hr.num.alike fun y _=>qfR M n y,hr.row,Fr.au (Below.refl _ _)⟩
 have c5:=hr.c5;have IB:Hid (∀f∈M,BP f):=h.small h.t0.kt;have Zz:=aX hml;have HN:=aX hn;have hfew:met.length<=64:=by have:=h.few;omega
 have Rk:n<=met.length:=by omega
 have ZA:Hid _:=hcut;clear h hr hF hml hn;generalize hL:met.length=L at *;have HL:=aX hL;clear hL;go_enter func54,ntmps54
 go_wp2
 go_loopw [13] (fun i wr=>∃k:Nat,k<=L-n/\i=.int .i64 k/\Hid (Gt T0 w wr G p mn (.slice va L vc) vs aj met M n k)) (fun i _=>(L-n)-(intOf i).toNat)
 case atStart=>exact⟨0,Nat.zero_le _,rfl,JJ⟩
 case round=>
  obtain⟨k,hk,rfl,HC⟩:=hrel;clear JJ c5;by_cases hlt:k<L-n
  ·have hkm:n+k<met.length:=by have:=HL.out;omega
   have IG:n+k<M.length:=by have:=Zz.out;omega
   obtain⟨va',vc',vb',e',_,_,hcut',Rl,_⟩:=UQ (show wr.ownsRow 0 3 1 (.slice va L vc) L (iZ met) by have:=HC.out.row;rw[HL.out]at this;exact this) (m:=n) Rk
   injection e' with e1 e2 e3;subst e1 e3
   have eb:vb=vb':=by
    have:=(ZA.out wr).symm.trans (hcut' wr)
    injection this with this;injection this
   subst eb;have hdl:k<(met.drop n).length:=by rw[List.length_drop];omega
   obtain⟨g1,o1,s1,hix,hcx⟩:=Rl.at k hdl;have hval:(met.drop n)[k]=met[n+k]:=by simp
   rw[hval]at hcx;obtain⟨S,hrep,yE⟩:=HRR.out.met.2 (n+k) met[n+k] (kU hkm);have sE:M[n+k]=S.flat:=by rw[kU IG]at yE;injection yE
   obtain⟨S2,k2,i2,e2⟩:=HH.out.of S.flat (List.mem_of_getElem? yE)
   have hw:S.WF:=by
    obtain⟨S3,h3,h4⟩:=HRR.out.po.BJ _ hrep.lt;have:=Rep.tree hrep h3
    subst this;rcases MN HRR.out.po.t0.kt h4 with q|q<;>exact q.wf
   have e:=Wj hw k2.wf e2;subst e;have jt:=nL (HC.out.po.up (Below.refl _ _).drew) met[n+k] S hrep i2;have htx:mJ S=kM M[n+k]:=by rw[sE];rfl
   have Ic:Hid (xK (mJ S)):=by unfold Hid xK;rw[Yv];have:=(Qd HH.out.t0.sz i2).1;omega
   have Yy:Hid ((mY M n k (mJ S)).isSome=true):=by rw[htx];exact qf3 IB.out HH.out.nd IG
   have fQ:Hid (∀z,(if z=mJ S then none else mY M n k z)=mY M n (k+1) z):=fun z=>by rw[htx];exact qfQ IB.out HH.out.nd IG z
   obtain⟨c4,c5,z5,Bc⟩:=HC.out.c4;have sM:wr.drew.cell? ⟨p,4,none⟩=some (.map (some mn)):=c4;have HPN:Hid (p≠mn):=fun e=>HRR.out.ng (e ▸ Bc)
   generalize mJ S=tx at *;generalize met[n+k]=mi at *;clear hval sE yE hrep k2 i2 e2 hw htx hcut' Rl;go_wp2
   go_region_held2 (fun w'=>w'.cell? ⟨p,4,none⟩=some (.map (some mn))) (first|exact sM|exact c4|assumption|fail) (first
    | (revert jt;intro jt;go_at_call 81;(with_reducible refine jt.mono ?_);rintro e w1 ⟨rfl,hq⟩;have Rn:Fr wr w1 G G:=((Fr.au (Below.refl _ _).drew).trans hq.2);have Ah:=HC.out.num.far (Rn.keep mn HC.out.num.lt HRR.out.ng);have ZB:w1.cell? ⟨p,4,none⟩=some (.map (some mn)):=(by obtain⟨vi,mp,vt,hb,_⟩:=hq.1.blk;exact qc hb 4))
    | (revert Ah;intro Ah;refine q8r rfl _ _ rfl mn _ (mY M n k) tx rfl rfl Ah Ic.out Yy.out ?_;intro w6 Qo BK;have c46:w6.cell? ⟨p,4,none⟩=some (.map (some mn)):=(by unfold World.cell? at ZB ⊢;rw[BK.block p (by have:=hq.1.lt p Bc;exact this) (fun e=>HPN.out (by injection e))];exact ZB))
    |fail)
   all_goals
    have Yz:Hid (Gt T0 w w6 G p mn (.slice va L vc) vs aj met M n (k+1)):=HC.out.next HRR.out.ng HRR.out.nv hq Qo fQ.out BK;clear jt Ah hq Qo BK Rn c4 sM ZB c46 c5 z5 hix hcx;go_wp2
    go_roundw
    case rel=>exact⟨k+1,by omega,by go_num,Yz⟩
    case measure=>simp[intOf]<;>omega
  ·obtain rfl:k=L-n:=by omega
   obtain⟨c4,c5,z5,Bc⟩:=HC.out.c4;have iy:Hid _:=qeJ HH.out HRR.out HF.out HL.out HN.out HC.out;clear HC;go_wp2
   go_end0
   exact⟨rfl,iy.out⟩
theorem sP(h:US w F a n c l){e:Int}(hb:Bh w b e):∀k,k<n->(aG a k).block≠b:=fun k hk e=>by
 have hc:=h.sl.cell k hk;unfold Bh at hb;unfold World.cell? at hc;rw[e,hb]at hc;simp at hc
 match ho:(aG a k).off,hc with
 | 0,hc=>simp at hc
 |j+1,hc=>simp at hc
theorem US.grown(h:US w F a n c l)(hg:w.grownBy w' (some b))(hb:∀k,k<n->(aG a k).block≠b):US w' F a n c l:=by
 have hs:=h.sl;refine⟨⟨hs.hlen,hs.hcap,hs.bd,hs.idx,fun k hk=>?_,fun k hk=>Nat.lt_of_lt_of_le (hs.blk k hk) hg.size,hs.nn⟩,h.nf⟩
 have:=hs.cell k hk
 unfold World.cell? at this ⊢;rw[hg.block _ (hs.blk k hk) (fun e=>hb k hk (by injection e))]
 exact this
def Ro(T0:Tr)(p:Nat)(vs:Value)(w:World)(F:Nat->Prop)(b3 E:Nat)(R:Rt)(w':World):Prop :=
 ∃(L:List Nat) (M':Mt) (q:Option Addr) (d:Nat) (F':Nat->Prop) (aI:List It),R=some (L,M')/\w'.heap[b3]? =some (.cells #[.slice q L.length d] 36 (0,0))/\iE T0 w' F' p vs aI M'/\US w' F' q L.length d L/\¬F' E/\(∀k,k<L.length->(aG q k).block≠E)/\Fr w w' (fun k=>F k\/k=b3\/k=E) F'/\(∀k,k<L.length->w.heap.size<=(aG q k).block)/\zo w' q L.length
def Rq(T0:Tr)(p:Nat)(vs:Value)(w:World)(F:Nat->Prop)(M:Mt)(b3 E:Nat)(R:Rt)(w':World):Prop :=
 R=none/\∃(M':Mt) (F':Nat->Prop) (aI:List It),iE T0 w' F' p vs aI M'/\M <+: M'/\¬F' E/\Fr w w' (fun k=>F k\/k=b3\/k=E) F'
theorem Ro.grown(h:Ro T0 p vs w F b3 E R w1)(hg:w1.grownBy w2 (some E))(hbE:b3≠E)(hb3:b3<w1.heap.size):Ro T0 p vs w F b3 E R w2:=by
 obtain⟨L,M',q,d,F',i',h1,h2,h3,h4,h5,h6,h7,h8⟩:=h;refine⟨L,M',q,d,F',i',h1,(hg.block b3 hb3 (fun e=>hbE (by injection e))).trans h2,h3.far fun k hk=>hg.block k (h3.lt k hk) (fun e=>h5 (by injection e with e;exact e ▸ hk)),h4.grown hg h6,h5,h6,⟨hg.os.trans h7.os,hg.tape.trans h7.tape,hg.output.trans h7.output,Nat.le_trans h7.size hg.size,fun k hk hF=>(hg.block k (Nat.lt_of_lt_of_le hk h7.size) (fun e=>hF (Or.inr (Or.inr (by injection e))))).trans (h7.keep k hk hF),h7.foot⟩,h8.1,h8.2.far fun k hk=>hg.block _ (h4.sl.blk k hk) (fun e=>h6 k hk (by injection e))⟩
theorem Rq.grown(h:Rq T0 p vs w F M b3 E R w1)(hg:w1.grownBy w2 (some E)):Rq T0 p vs w F M b3 E R w2:=by
 obtain⟨h1,M',F',i',h3,hM,h5,h7⟩:=h;exact⟨h1,M',F',i',h3.far fun k hk=>hg.block k (h3.lt k hk) (fun e=>h5 (by injection e with e;exact e ▸ hk)),hM,h5,⟨hg.os.trans h7.os,hg.tape.trans h7.tape,hg.output.trans h7.output,Nat.le_trans h7.size hg.size,fun k hk hF=>(hg.block k (Nat.lt_of_lt_of_le hk h7.size) (fun e=>hF (Or.inr (Or.inr (by injection e))))).trans (h7.keep k hk hF),h7.foot⟩⟩
theorem q90:lD 51:=fun _ _=>rfl
theorem q73(xq:x<256)(h:iE T0 w F p vs aj M)(hT:fK w)(EG:¬F yD)(a:Option Addr)(c:Nat)(l:List Nat)(hL:LH w F M a c l)(b0 b1 b2 b3:Nat)(hV:EH w F p x a l.length c (.slice none 0 0) b0 b1 b2 b3):
  Calls prog 45 #[.func (.func 51) #[] #[.pointer (some ⟨b0,0,none⟩),.pointer (some ⟨b2,0,none⟩),.pointer (some ⟨b1,0,none⟩),.pointer (some ⟨b3,0,none⟩)]] w fun e w'=>
   (e=.returned (.int .i64 0)/\Ro T0 p vs w F b3 w.heap.size (stepM aV x l [] M) w')\/(e=.returned (.int .i64 9)/\Rq T0 p vs w F M b3 w.heap.size (stepM aV x l [] M) w'):=by
 have h3l:b3<w.heap.size:=(lC hV.h3).1
 refine (sw 51 _ w q90 (fun w'=>Ro T0 p vs w F b3 w.heap.size (stepM aV x l [] M) w'/\b3<w'.heap.size) (fun w'=>Rq T0 p vs w F M b3 w.heap.size (stepM aV x l [] M) w') ?_ ?_ ?_).mono ?_
 ·rintro w1 w2 b ⟨hp,hb⟩ hg rfl
  exact⟨hp.grown hg (by omega) hb,Nat.lt_of_lt_of_le hb hg.size⟩
 ·rintro w1 w2 b hp hg rfl
  exact hp.grown hg
 ·intro w0 hw0
  have hb:Below w.heap.size w w0:=by rw[hw0];exact qd _ _
  have hE:Bh w0 w.heap.size 0:=by rw[hw0];exact(dO w _).1
  have hz:w0.heap.size=w.heap.size+1:=by rw[hw0];simp
  have Ai:¬F w.heap.size:=fun e=>Nat.lt_irrefl _ (h.lt _ e)
  refine (q8i xq (h.up hb) (hT.up hb) EG a c l (hL.fr (Fr.au hb) (List.prefix_refl _)) b0 b1 b2 b3 (hV.fr (Fr.au hb))).mono ?_
  rintro e w' (⟨rfl,L,M',q,d,F',i',hs,h3,hO,hU,hn3,hp,hM,fr,hnw⟩|⟨rfl,hs,M',F',i',hO,hn3,hp,hM,fr,h3⟩)
  ·have hE':Bh w' w.heap.size 0:=(fr.keep _ (by omega) (fun e=>by rcases e with e|e;exact Ai e;omega)).trans hE
   have KE:¬F' w.heap.size:=fr.out (fun e=>by rcases e with e|e;exact Ai e;omega) (by omega)
   refine Or.inl ⟨rfl,⟨⟨L,M',q,d,F',i',hs,h3,hO,hU,KE,sP hU hE',?_,fun k hk=>Nat.le_trans hb.size (hnw.1 k hk),hnw.2⟩,(lC h3).1⟩,hE'⟩
   exact((Fr.au hb).trans fr).alike (fun k hk=>by rcases hk with e|e;exact Or.inl e;exact Or.inr (Or.inl e)) (fun k hk=>hk)
  ·have hE':Bh w' w.heap.size 0:=(fr.keep _ (by omega) (fun e=>by rcases e with e|e;exact Ai e;omega)).trans hE
   have KE:¬F' w.heap.size:=fr.out (fun e=>by rcases e with e|e;exact Ai e;omega) (by omega)
   refine Or.inr ⟨rfl,⟨hs,M',F',i',hO,hM,KE,?_⟩,hE'⟩
   exact((Fr.au hb).trans fr).alike (fun k hk=>by rcases hk with e|e;exact Or.inl e;exact Or.inr (Or.inl e)) (fun k hk=>hk)
 ·rintro e w' (⟨h1,h2⟩|⟨h1,h2⟩)
  ·exact Or.inl ⟨h1,h2.1⟩
  ·exact Or.inr ⟨h1,h2⟩
theorem qgZ{M':Mt}(h:M <+: M'):M'.take M.length=M:=by
 obtain⟨r,rfl⟩:=h;simp
def D6(T0:Tr)(p:Nat)(vs:Value)(w:World)(F:Nat->Prop)(M:Mt)(R:Rt)(e:Ending)(w':World):Prop :=
 ∃(F':Nat->Prop) (aI:List It),Fr w w' F F'/\((R=none/\e=.returned (.tuple #[.slice none 0 0,.int .i64 9])/\iE T0 w' F' p vs aI M) \/
  ∃(L:List Nat) (M':Mt) (q:Option Addr) (d:Nat),R=some (L,M')/\e=.returned (.tuple #[.slice q L.length d,.int .i64 0])/\US w' F' q L.length d L/\iE T0 w' F' p vs aI M'/\(∀k,k<L.length->w.heap.size<=(aG q k).block)/\zo w' q L.length)
theorem sR{w4 w5:World}(hb:Below w.heap.size w w4)(fr:Fr w4 w5 (fun k=>F k\/k=b3\/k=E) F')(h3:w.heap.size<=b3)(hE:w.heap.size<=E):Fr w w5 F F' :=
 ⟨fr.os.trans hb.os,fr.tape.trans hb.tape,fr.output.trans hb.output,Nat.le_trans hb.size fr.size,fun k hk hF=>(fr.keep k (Nat.lt_of_lt_of_le hk hb.size) (fun e=>by rcases e with e|e|e;exact hF e;omega;omega)).trans (hb.block k hk),fun k hk=>by
  have:=hb.size
  rcases fr.foot k hk with (e|e|e)|e
  ·exact Or.inl e
  ·right;omega
  ·right;omega
  ·right;omega⟩
theorem sX(xq:x<256)(h:iE T0 w F p vs aj M)(hT:fK w)(EG:¬F yD)(a:Option Addr)(c:Nat)(l:List Nat)(hL:LH w F M a c l):
  Calls prog 28 #[.pointer (some ⟨p,0,none⟩),.slice a l.length c,.int .u8 x] w (D6 T0 p vs w F M (stepM aV x l [] M)):=by
 obtain⟨w1,hw1⟩:∃w1,w1=w.alloc (.cells #[.pointer (some ⟨p,0,none⟩)] 55):=⟨_,rfl⟩
 obtain⟨w2,hw2⟩:∃w2,w2=w1.alloc (.cells #[.slice a l.length c] 36):=⟨_,rfl⟩
 obtain⟨w3,hw3⟩:∃w3,w3=w2.alloc (.cells #[.int .u8 x] 43):=⟨_,rfl⟩
 obtain⟨w4,hw4⟩:∃w4,w4=w3.alloc (.cells #[.slice none 0 0] 36):=⟨_,rfl⟩
 have z1:w1.heap.size=w.heap.size+1:=by rw[hw1];simp
 have z2:w2.heap.size=w.heap.size+1+1:=by rw[hw2];simp[z1]
 have z3:w3.heap.size=w.heap.size+1+1+1:=by rw[hw3];simp[z2]
 have z4:w4.heap.size=w.heap.size+1+1+1+1:=by rw[hw4];simp[z3]
 have b1:Below w.heap.size w w1:=by rw[hw1];exact qd _ _
 have b2:Below w1.heap.size w1 w2:=by rw[hw2];exact qd _ _
 have b3:Below w2.heap.size w2 w3:=by rw[hw3];exact qd _ _
 have b4:Below w3.heap.size w3 w4:=by rw[hw4];exact qd _ _
 have hb3:Below w.heap.size w w3:=qe (qe b1 b2) b3;have hb4:Below w.heap.size w w4:=qe hb3 b4;have v0:w1.heap[w.heap.size]? =some (.cells #[.pointer (some ⟨p,0,none⟩)] 55 (0,0)):=by rw[hw1];exact(dO w _).1
 have v1:w2.heap[w.heap.size+1]? =some (.cells #[.slice a l.length c] 36 (0,0)):=by rw[<-z1,hw2];exact(dO w1 _).1
 have v2:w3.heap[w.heap.size+1+1]? =some (.cells #[.int .u8 x] 43 (0,0)):=by rw[<-z2,hw3];exact(dO w2 _).1
 have v3:w4.heap[w.heap.size+1+1+1]? =some (.cells #[.slice none 0 0] 36 (0,0)):=by rw[<-z3,hw4];exact(dO w3 _).1
 have u0:w3.heap[w.heap.size]? =some (.cells #[.pointer (some ⟨p,0,none⟩)] 55 (0,0)):=(b3.block _ (by omega)).trans ((b2.block _ (by omega)).trans v0)
 have u1:w3.heap[w.heap.size+1]? =some (.cells #[.slice a l.length c] 36 (0,0)):=(b3.block _ (by omega)).trans v1
 have hlt:=h.lt;have hV:EH w4 F p x a l.length c (.slice none 0 0) w.heap.size (w.heap.size+1) (w.heap.size+1+1) (w.heap.size+1+1+1):=⟨(b4.block _ (by omega)).trans u0,(b4.block _ (by omega)).trans u1,(b4.block _ (by omega)).trans v2,v3,fun e=>by have:=hlt _ e;omega,fun e=>by have:=hlt _ e;omega,fun e=>by have:=hlt _ e;omega,fun e=>by have:=hlt _ e;omega,by omega⟩
 have jm:=U8 (h.up hb3);have hL3:=hL.fr (Fr.au (F:=F) hb3) (List.prefix_refl _);have jk:=sx (h.up hb3) a c l hL3.us.sl (hL3.lst h.good).sm hL3.len;have jc:=q73 xq (h.up hb4) (hT.up hb4) EG a c l (hL.fr (Fr.au hb4) (List.prefix_refl _)) _ _ _ _ hV;obtain⟨G,mn,vm,met,hr,hF⟩:=(h.up hb3).ex;have c5:=hr.c5;obtain⟨ma,mc,rfl⟩:=qK hr.row;rw[hr.met.1]at c5;have q0:w3.cell? ⟨w.heap.size,0,none⟩=some (.pointer (some ⟨p,0,none⟩)):=qc u0 0;have q1:w3.cell? ⟨w.heap.size+1,0,none⟩=some (.slice a l.length c):=qc u1 0;have DK:Hid (jJ l M.length):=hL.bd;have HH:Hid _:=h;have HV:Hid _:=hV;have HB4:Hid _:=hb4;have Z4:Hid _:=z4;obtain⟨R,hR⟩:∃R,R=stepM aV x l [] M:=⟨_,rfl⟩
 rw[<-hR]at jc ⊢;obtain⟨Q,hQ⟩:∃Q:Ending->World->Prop,Q=D6 T0 p vs w F M R:=⟨_,rfl⟩
 have HQ:Hid (∀e w',D6 T0 p vs w F M R e w'->Q e w'):=fun e w' h=>by rw[hQ];exact h
 rw[<-hQ];clear h hT EG hL hL3 hV hlt hr hF hR hQ b1 b2 b3 b4 hb3 hb4 v0 v1 v2 v3 u0 u1;have HW1:Hid _:=hw1;have HW2:Hid _:=hw2;have HW3:Hid _:=hw3;have HW4:Hid _:=hw4;have Z3:Hid _:=z3;clear hw1 hw2 hw3 hw4 z1 z2 z3 z4;generalize l.length=n at *;go_enter func28,ntmps28
 go_wp2_with fail
 rw[<-HW1.out,<-HW2.out,<-HW3.out];refine jm.mono ?_
 rintro e w5 ⟨rfl,hw5⟩
 obtain rfl:=hw5.symm
 clear jm
 go_wp2_with fail
 refine jk.mono ?_
 rintro e w5 ⟨⟨b,rfl,hbd⟩,hw5⟩
 obtain rfl:=hw5.symm
 have hbt:b=true:=hbd.2 DK.out;subst hbt;clear jk hbd
 go_wp2_with fail
 rw[<-HW4.out,Z3.out];refine jc.mono ?_
 clear jc;rintro e w5 (⟨rfl,L,M',q,d,F',i',hs,h3,hO,hU,Ai,hoff,fr,hnw⟩|⟨rfl,hs,M',F',i',hO,hM,Ai,fr⟩)
 ·have r3:w5.cell? ⟨w.heap.size+1+1+1,0,none⟩=some (.slice q L.length d):=qc h3 0
  have HE:Hid (Q (.returned (.tuple #[.slice q L.length d,.int .i64 0])) w5):=HQ.out _ _ ⟨F',i',sR HB4.out fr (by omega) (by rw[Z4.out];omega),Or.inr ⟨L,M',q,d,hs,rfl,hU,hO,fun k hk=>Nat.le_trans HB4.out.size (hnw.1 k hk),hnw.2⟩⟩
  clear hs h3 hO hU Ai hoff fr hnw;go_wp2;exact HE.out
 ·have r0:w5.heap[w.heap.size]? =some (.cells #[.pointer (some ⟨p,0,none⟩)] 55 (0,0)):=(fr.keep _ (by rw[Z4.out];omega) (fun e=>by rcases e with e|e|e;exact HV.out.n0 e;omega;rw[Z4.out]at e;omega)).trans HV.out.h0
  have rc:w5.cell? ⟨w.heap.size,0,none⟩=some (.pointer (some ⟨p,0,none⟩)):=qc r0 0;have jf:=q7r hO M.length hM.length_le;have Du:Hid (Fr w w5 F F'):=sR HB4.out fr (by omega) (by rw[Z4.out];omega)
  rw[qgZ hM]at jf;clear r0 hO Ai fr
  go_wp2_with fail
  refine jf.mono ?_
  rintro e w6 ⟨rfl,F6,Kz,Ky⟩
  have HE:Hid (Q (.returned (.tuple #[.slice none 0 0,.int .i64 9])) w6):=HQ.out _ _ ⟨F6,i',Du.out.trans Ky,Or.inl ⟨hs,rfl,Kz⟩⟩;clear jf hs Kz Ky;go_wp2;exact HE.out
theorem q97{x:Nat}(h:iE T0 w F p vs aj M)(a:Option Addr)(c:Nat)(l:List Nat)(hU:US w F a l.length c l)(sm:Sm l)(hl:l.length<=1024)(hbd:¬jJ l M.length):
  Calls prog 28 #[.pointer (some ⟨p,0,none⟩),.slice a l.length c,.int .u8 x] w fun e w'=>e=.returned (.tuple #[.slice none 0 0,.int .i64 2])/\Below w.heap.size w w':=by
 obtain⟨w1,hw1⟩:∃w1,w1=w.alloc (.cells #[.pointer (some ⟨p,0,none⟩)] 55):=⟨_,rfl⟩
 obtain⟨w2,hw2⟩:∃w2,w2=w1.alloc (.cells #[.slice a l.length c] 36):=⟨_,rfl⟩
 obtain⟨w3,hw3⟩:∃w3,w3=w2.alloc (.cells #[.int .u8 x] 43):=⟨_,rfl⟩
 have z1:w1.heap.size=w.heap.size+1:=by rw[hw1];simp
 have z2:w2.heap.size=w.heap.size+1+1:=by rw[hw2];simp[z1]
 have b1:Below w.heap.size w w1:=by rw[hw1];exact qd _ _
 have b2:Below w1.heap.size w1 w2:=by rw[hw2];exact qd _ _
 have b3:Below w2.heap.size w2 w3:=by rw[hw3];exact qd _ _
 have hb3:Below w.heap.size w w3:=qe (qe b1 b2) b3;have v0:w1.heap[w.heap.size]? =some (.cells #[.pointer (some ⟨p,0,none⟩)] 55 (0,0)):=by rw[hw1];exact(dO w _).1
 have v1:w2.heap[w.heap.size+1]? =some (.cells #[.slice a l.length c] 36 (0,0)):=by rw[<-z1,hw2];exact(dO w1 _).1
 have u0:w3.heap[w.heap.size]? =some (.cells #[.pointer (some ⟨p,0,none⟩)] 55 (0,0)):=(b3.block _ (by omega)).trans ((b2.block _ (by omega)).trans v0)
 have u1:w3.heap[w.heap.size+1]? =some (.cells #[.slice a l.length c] 36 (0,0)):=(b3.block _ (by omega)).trans v1
 have jm:=U8 (h.up hb3);have jk:=sx (h.up hb3) a c l (hU.fr (Fr.au (F:=F) hb3)).sl sm hl;have q0:w3.cell? ⟨w.heap.size,0,none⟩=some (.pointer (some ⟨p,0,none⟩)):=qc u0 0;have q1:w3.cell? ⟨w.heap.size+1,0,none⟩=some (.slice a l.length c):=qc u1 0;have DK:=aX hbd;have HB3:Hid _:=hb3;have HW1:Hid _:=hw1;have HW2:Hid _:=hw2;have HW3:Hid _:=hw3;clear h hU sm hl hbd b1 b2 b3 hb3 v0 v1 u0 u1 hw1 hw2 hw3 z1 z2;generalize l.length=n at *;go_enter func28,ntmps28
 go_wp2_with fail
 rw[<-HW1.out,<-HW2.out,<-HW3.out];refine jm.mono ?_
 rintro e w5 ⟨rfl,hw5⟩
 obtain rfl:=hw5.symm
 clear jm
 go_wp2_with fail
 refine jk.mono ?_
 rintro e w5 ⟨⟨b,rfl,hbd⟩,hw5⟩
 obtain rfl:=hw5.symm
 have hbt:b=false:=by
  cases b with
  |false=>rfl
  |true=>exact absurd (hbd.1 rfl) DK.out
 subst hbt;clear jk hbd;go_wp2;go_ret2
 exact⟨rfl,HB3.out⟩
def jY(w:World)(g:Nat)(bs:List Bool):Prop:=w.heap[g]? =some (.cells (bs.map Value.bool).toArray 4 (0,0))
theorem jY.lt(h:jY w g bs):g<w.heap.size:=(lC h).1
theorem jY.up(h:jY w g bs)(hb:Below w.heap.size w w'):jY w' g bs:=(hb.block g h.lt).trans h
theorem jY.cell(h:jY w g bs){b:Bool}(hi:bs[i]? =some b):w.cell? ⟨g,i,none⟩=some (.bool b):=by
 unfold jY at h;rw[qc h i];simp[hi]
theorem jY.fz(h:jY w g bs)(i:Nat):w.frozen? ⟨g,i,none⟩=false:=frozen_of_row w g i _ _ h
theorem jY.set(h:jY w g bs)(i:Nat)(b:Bool):jY (w.setCell ⟨g,i,none⟩ (.bool b)) g (bs.set i b):=by
 unfold jY at h ⊢;rw[heap_setCell_same w g i _ _ _ h]
 congr 2
 simp
theorem Vd(g n i:Nat)(hi:i<n)(w:World):(Instr.indexAt 66 (.slice (some ⟨g,0,none⟩) n n) (.int .i64 i)).run prog w=.ok (.pointer (some ⟨g,i,none⟩)) w:=by
 simp[Instr.indexAt,run_underlying underlying66,asIntOf,qU (show (prog.info? 4).map (·.size)=some 1 by kernel_rfl),hi,Result.andThen,go_sem,qi]
theorem q74(t0:KT T0)(hk:Rep aj k S)(hS:jD T0 S)(x:It)(hx:aj[k]? =some x)(g n:Nat)(bs:List Bool)(w:World)(hb:jY w g bs)(hn:bs.length=n)(hall:∀j S,j<k->Rep aj j S->bs[j]? =some (bW S)):
  Calls prog 65 #[iV x,.slice (some ⟨g,0,none⟩) n n] w fun e w'=>e=.returned (.bool (bW S))/\w'=w.alloc (aW x):=by
 have hkind:=MN t0 hS
 have key:∀(m:Nat)(c:Tr),m<k->Rep aj m c->(∀w',(Instr.indexAt 66 (.slice (some ⟨g,0,none⟩) n n) (.int .i64 m)).run prog w'=.ok (.pointer (some ⟨g,m,none⟩)) w')/\∀o,(w.alloc o).cell? ⟨g,m,none⟩=some (.bool (bW c)):=fun m c hm hr=>by
  have hq:=hall m c hm hr;have hlt:m<n:=by rw[<-hn];exact(List.getElem?_eq_some_iff.1 hq).1
  exact⟨fun w'=>Vd g n m hlt w',fun o=>(hb.up (qd w o)).cell hq⟩
 match S,hk,hS,hkind with
 | .leaf (op,pp),hk,hS,hkind=>
  obtain rfl:x=⟨op,pp,-1,-1⟩:=by cases hk with|leaf h=>rw[h]at hx;injection hx with hx;exact hx.symm
  have ho:op=0\/op=1\/op=2\/op=4\/op=5:=by
   rcases hkind with q|q
   ·rcases Aw q with⟨h,_⟩|⟨_,h⟩<;>omega
   ·exact(EZ q).elim
  rcases ho with rfl|rfl|rfl|rfl|rfl
  ·exact Nb _ _ _ _ _ _ _ _ (by simp)
  ·exact Nc _ _ _ _ _ _ _ _ (by simp)
  ·exact Nc _ _ _ _ _ _ _ _ (by simp)
  ·exact Nc _ _ _ _ _ _ _ _ (by simp)
  ·exact Nb _ _ _ _ _ _ _ _ (by simp)
 | .un (op,pp) c,hk,hS,hkind=>
  obtain⟨m,rfl,hm,hr⟩:∃m:Nat,x=⟨op,pp,(m:Int),-1⟩/\m<k/\Rep aj m c:=by cases hk with|un h h1 h2=>rw[h]at hx;injection hx with hx;exact⟨_,hx.symm,h1,h2⟩
  obtain⟨hi,hc⟩:=key m c hm hr
  have ho:op=6\/op=7\/op=8\/op=19\/op=20\/op=23:=by
   rcases hkind with q|q
   ·rcases ku q with⟨_,⟨h,_⟩|⟨h,_⟩⟩<;>omega
   ·rcases kC q with⟨_,⟨h,_⟩|⟨h,_⟩|⟨h,_⟩⟩<;>omega
  rcases ho with rfl|rfl|rfl|rfl|rfl|rfl
  ·exact Nb _ _ _ _ _ _ _ _ (by simp)
  ·exact Nc _ _ _ _ _ _ _ _ (by simp)
  ·exact Nb _ _ _ _ _ _ _ _ (by simp)
  ·exact Nc _ _ _ _ _ _ _ _ (by simp)
  ·exact q8f _ _ _ _ _ _ _ g _ rfl m (bW c) (hi _) (hc _)
  ·exact Nb _ _ _ _ _ _ _ _ (by simp)
 | .bin (op,pp) c d,hk,hS,hkind=>
  obtain⟨m,l,rfl,hm,hl,hr,hr2⟩:∃m l:Nat,x=⟨op,pp,(m:Int),(l:Int)⟩/\m<k/\l<k/\Rep aj m c/\Rep aj l d:=by cases hk with|bin h h1 h2 h3 h4=>rw[h]at hx;injection hx with hx;exact⟨_,_,hx.symm,h1,h2,h3,h4⟩
  obtain⟨hi,hc⟩:=key m c hm hr;obtain⟨hi2,hc2⟩:=key l d hl hr2
  have ho:op=11\/op=12\/op=15\/op=16\/op=17\/op=18\/op=21\/op=22:=by
   rcases hkind with q|q
   ·have:=(xG q).2;omega
   ·have:=(xH q).2.1;omega
  rcases ho with rfl|rfl|rfl|rfl|rfl|rfl|rfl|rfl
  ·exact Zl _ _ _ _ _ _ _ g _ (by simp) m l (bW c) (bW d) (hi _) (hc _) (hi2 _) (hc2 _)
  ·exact r6 _ _ _ _ _ _ _ g _ (by simp) m l (bW c) (bW d) (hi _) (hc _) (hi2 _) (hc2 _)
  ·exact Nc _ _ _ _ _ _ _ _ (by simp)
  ·exact Nb _ _ _ _ _ _ _ _ (by simp)
  ·exact Zl _ _ _ _ _ _ _ g _ (by simp) m l (bW c) (bW d) (hi _) (hc _) (hi2 _) (hc2 _)
  ·exact q99 _ _ _ _ _ _ _ g _ rfl m l (bW c) (bW d) (hi _) (hc _) (hi2 _) (hc2 _)
  ·exact r6 _ _ _ _ _ _ _ g _ (by simp) m l (bW c) (bW d) (hi _) (hc _) (hi2 _) (hc2 _)
  ·exact Zl _ _ _ _ _ _ _ g _ (by simp) m l (bW c) (bW d) (hi _) (hc _) (hi2 _) (hc2 _)
theorem qdk:(prog.info? 4).map (fun i=>(i.zero,i.size,i.bytes))=some (some (.bool false),1,1):=by kernel_rfl
theorem qie(n:Nat):madeCells #[.bool false] n=Array.replicate n (.bool false):=by
 unfold madeCells
 apply Array.ext
 ·simp
 ·intro i h1 h2
  simp[Nat.mod_one]
theorem qdx(l:Nat)(hb:l<=100000000)(w:World):
  (Instr.makeSlice 66 (.int .i64 l) (.int .i64 l)).run prog w=.ok (.slice (some ⟨w.heap.size,0,none⟩) l l) (w.alloc (.cells (Array.replicate l (Value.bool false)) 4)):=by
 obtain⟨i,hi,hz0,hz1,hz2⟩:=info_parts qdk;have:=run_make (P:=prog) w 66 4 i (.bool false) underlying66 hi hz0 .i64 .i64 (l:Int) (l:Int) (by omega) (by omega) (by rw[hz2];omega) (by omega)
 rw[this,hz1];simp only[Int.toNat_natCast,Nat.mul_one]
 have e:(Value.bool false).cells=#[.bool false]:=rfl;rw[e,qie]
theorem jY.made(w:World)(l:Nat):jY (w.alloc (.cells (Array.replicate l (Value.bool false)) 4)) w.heap.size (List.replicate l false):=by
 unfold jY;rw[(MapKept.heap_alloc w _).1];simp
structure Ru(aj:List It)(bs:List Bool):Prop where
 len:bs.length=aj.length
 all:∀j S,Rep aj j S->bs[j]? =some (bW S)
theorem sY{rest:List Value}(h:kW T0 w G b T rest aj):
  Calls prog 40 #[.pointer (some ⟨b,0,none⟩)] w fun e w'=>e=.returned (.slice (some ⟨w.heap.size,0,none⟩) aj.length aj.length)/\(∃bs,Ru aj bs/\jY w' w.heap.size bs)/\Below w.heap.size w w':=by
 have hfew:=h.few;obtain⟨aS,hp,_⟩:=h.ex;obtain⟨vi,mp,vt,hr,_⟩:=hp.ex;obtain⟨ai,ci,rfl⟩:=qK hr.ri;have c0:=hr.c0;have c0b:(w.alloc (.cells (Array.replicate aj.length (Value.bool false)) 4)).cell? ⟨b,0,none⟩=some (.slice ai aj.length ci):=(hr.up (qd w _)).c0;have hmk:=qdx aj.length (by omega) w
 have HH:Hid _:=h;have s9:Hid _:=jY.made w aj.length;have HB0:Hid _:=qd w (.cells (Array.replicate aj.length (Value.bool false)) 4);have HC:=aX c0;clear h hp hr;generalize hL:aj.length=L at *;have HL:=aX hL;clear hL;go_enter func40,ntmps40
 go_wp2
 go_loopw [17] (fun i wr=>∃(k:Nat) (bs:List Bool),k<=L/\i=.int .i64 k/\Hid (jY wr w.heap.size bs)/\Hid (bs.length=L)/\Hid (∀j S,j<k->Rep aj j S->bs[j]? =some (bW S))/\Hid (Below w.heap.size w wr)) (fun i _=>L-(intOf i).toNat)
 case atStart=>exact⟨0,List.replicate L false,Nat.zero_le _,rfl,s9,by simp[Hid],fun j S hj=>absurd hj (by omega),HB0⟩
 case round=>
  clear s9 HB0 c0 c0b hmk;obtain⟨k,bs,hk,rfl,HE,pX,D7,HB⟩:=hrel;by_cases hlt:k<L
  ·have hki:k<aj.length:=by have:=HL.out;omega
   obtain⟨S,hrep,hS⟩:=HH.out.BJ k hki;obtain⟨a,n,cap,g,o,d0,hidx,x0,x1,x2,x3⟩:=(HH.out.up HB.out).at (kU hki)
   have ea:Value.slice a n cap=.slice ai L ci:=by
    have e1:=qf HC.out HB.out;rw[d0]at e1;injection e1
   injection ea with e1 e2 e3;subst e1 e2 e3;have hb1:=qd wr (aW aj[k]);have je:=q74 HH.out.t0.kt hrep hS aj[k] (kU hki) w.heap.size n bs (wr.alloc (aW aj[k])) (HE.out.up hb1) pX.out D7.out
   have hz:(wr.alloc (aW aj[k])).heap.size=wr.heap.size+1:=by simp
   have hbx:=(dO wr (aW aj[k])).1;have y0:(wr.alloc (aW aj[k])).cell? ⟨wr.heap.size,0,none⟩=some (.int .u8 (aj[k].op:Int)):=qc hbx 0;have y1:(wr.alloc (aW aj[k])).cell? ⟨wr.heap.size,1,none⟩=some (.int .u8 (aj[k].p:Int)):=qc hbx 1;have y2:(wr.alloc (aW aj[k])).cell? ⟨wr.heap.size,2,none⟩=some (.int .i64 aj[k].a):=qc hbx 2;have y3:(wr.alloc (aW aj[k])).cell? ⟨wr.heap.size,3,none⟩=some (.int .i64 aj[k].b):=qc hbx 3;have hb2:Below wr.heap.size wr ((wr.alloc (aW aj[k])).alloc (aW aj[k])):=qe hb1 (qd _ _);have HE2:Hid (jY ((wr.alloc (aW aj[k])).alloc (aW aj[k])) w.heap.size bs):=jY.up HE.out hb2;have HB2:Hid _:=qe HB.out hb2;have hix:=fun w'=>Vd w.heap.size n k hlt w'
   have hbk:bs[k]? =some (bs[k]'(by rw[pX.out];exact hlt)):=kU _
   have cB:=HE2.out.cell hbk;have zB:=HE2.out.fz k
   have fQ:Hid (∀j S',j<k+1->Rep aj j S'->(bs.set k (bW S))[j]? =some (bW S')):=fun j S' hj hr=>by
    by_cases e:j=k
    ·subst e
     have:=Rep.tree hrep hr
     subst this;rw[List.getElem?_set_self (by rw[pX.out];exact hlt)]
    ·rw[List.getElem?_set_ne (fun h=>e h.symm)]
     exact D7.out j S' (by omega) hr
   have HES:Hid (jY (((wr.alloc (aW aj[k])).alloc (aW aj[k])).setCell ⟨w.heap.size,k,none⟩ (.bool (bW S))) w.heap.size (bs.set k (bW S))):=HE2.out.set k _;have UN:Hid (Below w.heap.size w (((wr.alloc (aW aj[k])).alloc (aW aj[k])).setCell ⟨w.heap.size,k,none⟩ (.bool (bW S)))):=⟨HB2.out.os,HB2.out.tape,HB2.out.output,by simp;have:=HB2.out.size;simp at this;omega,fun j hj=>(Below.heap_setCell _ _ _ _ (by dsimp only;omega)).trans (HB2.out.block j hj)⟩
   generalize aj[k]=xx at *;obtain⟨op,pp,xa,xb⟩:=xx;generalize bW S=bv at *;unfold aW iV at *;dsimp only at *
   clear hbx hb1 hb2 hrep hS HB HE D7 HE2 HB2 hbk
   go_wp2_with fail
   refine je.mono ?_
   rintro e w5 ⟨rfl,rfl⟩
   clear je y0 y1 y2 y3 x0 x1 x2 x3 d0 hidx;have ZC:Hid ((bs.set k bv).length=n):=by show _=_;rw[List.length_set];exact pX.out
   go_wp2
   go_roundw
   case rel=>exact⟨k+1,bs.set k bv,by omega,by go_num,HES,ZC,fQ,UN⟩
   case measure=>simp[intOf]<;>omega
  ·obtain rfl:k=L:=by omega
   have Gu:Hid (∃bs,Ru aj bs/\jY wr w.heap.size bs):=⟨bs,⟨by rw[pX.out,HL.out],fun j S hr=>D7.out j S (by have:=hr.lt;have:=HL.out;omega) hr⟩,HE.out⟩
   clear HE D7;go_wp2;go_ret
   exact⟨rfl,Gu.out,HB.out⟩
end Go.Proofs.YtoioiellaomonaaGreatDoor
