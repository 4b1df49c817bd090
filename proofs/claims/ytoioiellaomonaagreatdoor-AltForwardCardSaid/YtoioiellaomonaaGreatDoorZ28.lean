import Derived.Test.YtoioiellaomonaaGreatDoorZ27
set_option maxRecDepth 100000
set_option maxHeartbeats 16000000
namespace Go.Proofs.YtoioiellaomonaaGreatDoor
open Go.RowKit Go.Maps Proofs.Tryz
variable {ra rb:List gX}{k:Nat}
def cF:Prop:=∀(a:Option Addr)(len cap:Nat)(ts:List Tk)(b:Option Addr)(m c:Nat)(zs:List Int)(w:World),bG w a len cap ts->lX w b m c zs->fK w->Calls prog 7 #[.slice a len cap,.slice b m c] w (cn ts zs w)
theorem yv(a:Option Addr)(n c:Nat)(l:List Nat)(b:Option Addr)(m d:Nat)(w:World)(h:fH w a n c l)(h':fH w b m d l):Calls prog 10 #[.slice a n c,.slice b m d] w fun e w'=>e=.returned (.bool true)/\∃q,w'=w.drewN q:=by
 have js:=q8q a n c _ b m d _ w h h';rw[decide_eq_true rfl]at js;clear h h';go_enter func10,ntmps10
 go_wp2_with fail
 refine js.mono ?_
 rintro e w1 ⟨rfl,hb⟩
 have HB:Hid _:=hb;clear js hb;go_wp2;go_ret
 exact⟨rfl,HB.out⟩
theorem qgb{la m:Nat}(h:Bz la m=true):la<=200/\m<=1033:=by
 unfold Bz at h;simp at h
 omega
theorem Fr.drew{w w':World}{F:Nat->Prop}(h:Fr w w' F F)(q:Nat):Fr w (w'.drewN q) F F:=h.trans (Fr.au (below_drewN (Below.refl _ _) q))
theorem I4(h:rb.map (·.ts)=ra.map (·.ts)){r s:gX}(hr:ra[k]? =some r)(hs:rb[k]? =some s):s.ts=r.ts:=by
 have h1:(rb.map (·.ts))[k]? =(ra.map (·.ts))[k]? := by rw[h]
 rw[List.getElem?_map,List.getElem?_map,hr,hs]at h1;exact Option.some.inj h1
theorem cy.row{w1 W:World}{n:Nat}{aa:Option Addr}{ca ga:Nat}{ab:Option Addr}{cb gb:Nat}{ac:Option Addr}{cc gc:Nat}{rc:List gX}(h:cy w1 W n aa ca ga ra ab cb gb rb ac cc gc rc){wr:World}{k':Nat}(f:Fr W wr (Dk ra k') (Dk ra k'))(hk:k<n):
  ∃vH rc':gX,wr.cell? ⟨gb,k,none⟩=some (.slice vH.a vH.len vH.cap)/\wr.cell? ⟨gc,k,none⟩=some (.slice rc'.a rc'.len rc'.cap)/\(∀q,Calls prog 10 #[.slice vH.a vH.len vH.cap,.slice rc'.a rc'.len rc'.cap] (wr.drewN q) fun e w'=>e=.returned (.bool true)/\∃n,w'=(wr.drewN q).drewN n) /\
   ∃r:gX,ra[k]? =some r/\wr.cell? ⟨ga,k,none⟩=some (.slice r.a r.len r.cap)/\(k'<=k->(∀q,Calls prog 10 #[.slice r.a r.len r.cap,.slice rc'.a rc'.len rc'.cap] (wr.drewN q) fun e w'=>e=.returned (.bool true)/\∃n,w'=(wr.drewN q).drewN n) /\
    (∀x (w':World),x<r.len->(Instr.indexAt 36 (.slice r.a r.len r.cap) (.int .i64 x)).run prog w'=.ok (.pointer (some (aG r.a x))) w')/\r.len<=9223372036854775807/\(∀x,x<r.len->∃z,wr.cell? (aG r.a x)=some (.int .u64 z))/\∀x,x<r.len->wr.frozen? (aG r.a x)=false):=by
 have h0:0<n:=by omega
 obtain⟨r,hr⟩:∃r,ra[k]? =some r:=⟨_,kU (by rw[h.A.len];exact hk)⟩
 obtain⟨vH,hb⟩:∃r,rb[k]? =some r:=⟨_,kU (by rw[h.B.len];exact hk)⟩
 obtain⟨rc',hc⟩:∃r,rc[k]? =some r:=⟨_,kU (by rw[h.C.len];exact hk)⟩
 have mr:=List.mem_of_getElem? hr;have mb:=List.mem_of_getElem? hb;have mc:=List.mem_of_getElem? hc;have ub:fH wr vH.a vH.len vH.cap vH.ts:=f.lq (h.B.us _ mb) (fun x hx=>h.ob _ mb _ x hx)
 have uc:fH wr rc'.a rc'.len rc'.cap rc'.ts:=f.lq (h.C.us _ mc) (fun x hx=>h.oc _ mc _ x hx)
 rw[I4 h.eb hr hb]at ub;rw[I4 h.ec hr hc]at uc;refine⟨vH,rc',f.cell (h.B.cell k _ hb) (h.nb _ h0),f.cell (h.C.cell k _ hc) (h.nc _ h0),fun q=>yv _ _ _ _ _ _ _ _ (ub.drewN q) (uc.drewN q),r,hr,f.cell (h.A.cell k _ hr) (h.na _ h0),fun hkk=>?_⟩
 have off:∀x,x<r.len->¬Dk ra k' (aG r.a x).block:=fun x hx hd=>h.oa k r hr x hx (hd.mono hkk)
 have ua:fH wr r.a r.len r.cap r.ts:=f.lq (h.A.us _ mr) off;have hbd:=Nat.le_trans ua.hcap ua.bd;unfold maxLen at hbd;exact⟨fun q=>yv _ _ _ _ _ _ _ _ (ua.drewN q) (uc.drewN q),fun x w' hx=>ua.idx _ x w' hx bZ,by omega,fun x hx=>⟨_,ua.cell x hx⟩,fun x hx=>f.fz ((h.A.us _ mr).cell x hx) (off x hx) (h.uf r mr x hx)⟩
theorem q7m(cG:cF)(a:Option Addr)(la ca:Nat)(xs:List Tk)(d:Option Addr)(m c:Nat)(zs:List Int)(w:World)(hT:fK w)(hA:bG w a la ca xs)(hL:lX w d m c zs):
  Calls prog 3 #[.slice a la ca,.slice d m c] w (BR true w):=by
 have cH:Hid cF:=cG;have HT:=aX hT;have HA:=aX hA;have HL:=aX hL;have MS:Hid (xs.length=la):=hA.hlen;have pX:Hid (zs.length=m):=hL.sl.hlen;have j1:=q7Z a la ca d m c w;by_cases hsm:Bz la m=false
 ·rw[hsm]at j1
  clear hT hA hL cG;go_enter func3,ntmps3
  go_wp2_with fail
  refine j1.mono ?_
  rintro e w1 ⟨rfl,rfl⟩
  clear j1
  go_wp2_with fail
  go_ret
  exact⟨rfl,Below.refl _ _⟩
 have hs2:Bz la m=true:=by simpa using hsm
 rw[hs2]at j1;obtain⟨hla,hm⟩:=qgb hs2;have j2:=tM a la ca xs w hA (by omega)
 clear hT hA hL cG hsm hs2;go_enter func3,ntmps3
 go_wp2_with fail
 refine j1.mono ?_
 rintro e w0 ⟨rfl,hw0⟩
 have cJ:=hw0.symm;subst cJ;clear j1 hw0
 go_wp2_with fail
 refine j2.mono ?_
 rintro e w1 ⟨rfl,hR1,hb1⟩
 have HR1:=aX hR1;have HB1:=aX hb1;have j3:=tW d m c zs w1 ((HL.out.up hb1).sl) (by omega)
 clear j2 hR1 hb1
 go_wp2_with fail
 refine j3.mono ?_
 rintro e w2 ⟨rfl,hR2,hb2⟩
 have HR2:=aX hR2;have Lp:=aX hb2;have HB2:Hid (Below w.heap.size w w2):=qe HB1.out hb2;clear j3 hR2 hb2;obtain⟨g1,hg1⟩:∃g,g=w.heap.size:=⟨_,rfl⟩
 obtain⟨g2,hg2⟩:∃g,g=w1.heap.size:=⟨_,rfl⟩
 rw[<-hg1]at HR1 ⊢;rw[<-hg2]at HR2 ⊢;have HT2:Hid (bG w2 (some ⟨g1,0,none⟩) la (la+3) xs):=qeU (HR1.out.up Lp.out) MS.out (by omega) HA.out.ok
 have HL2:Hid (lX w2 (some ⟨g2,0,none⟩) m (m+3) zs):=⟨q89 HR2.out pX.out (by omega),HL.out.ok⟩
 have HG:Hid (g1<w2.heap.size/\g2<w2.heap.size):=⟨(HR1.out.up Lp.out).lt,HR2.out.lt⟩;clear hg1 hg2;have j4:=cH.out _ _ _ _ _ _ _ _ w2 HT2.out HL2.out (HT.out.up HB2.out)
 go_wp2_with fail
 refine j4.mono ?_
 intro e1 w3 q1;have j5:=cH.out _ _ _ _ _ _ _ _ w3 (HT2.out.up q1.1) (HL2.out.up q1.1) (HT.out.up (qe HB2.out q1.1));have FH:=aX q1
 have hs1:∃v E,e1=.returned (.tuple #[v,.int .i64 E]):=by
  rcases q1.2 with⟨E,_,h⟩|⟨_,_,_,_,_,_,_,h,_⟩
  ·exact⟨_,_,h⟩
  ·exact⟨_,_,h⟩
 obtain⟨v1,E1,rfl⟩:=hs1;clear j4 q1
 go_wp2_with fail
 refine j5.mono ?_
 intro e2 w4 q2;have mG:=aX q2;have HB4:Hid (Below w2.heap.size w2 w4):=qe FH.out.1 q2.1;have j6:=q77 a la ca xs d m c zs w4 (HA.out.up (qe HB2.out HB4.out)) (HL.out.up (qe HB2.out HB4.out)) (by rw[MS.out];exact hla)
 have hs1:∃v E,e2=.returned (.tuple #[v,.int .i64 E]):=by
  rcases q2.2 with⟨E,_,h⟩|⟨_,_,_,_,_,_,_,h,_⟩
  ·exact⟨_,_,h⟩
  ·exact⟨_,_,h⟩
 obtain⟨v2,E2,rfl⟩:=hs1;clear j5 q2
 go_wp2_with fail
 refine j6.mono ?_
 intro e3 w5 q3;have FI:=aX q3;have xg:Hid (Below w2.heap.size w2 w5):=qe HB4.out q3.1;have j7:=qbj _ _ _ _ _ _ _ _ w5 (HT2.out.up xg.out) (HL2.out.up xg.out) (HT.out.up (qe HB2.out xg.out))
 have hs1:∃v b E,e3=.returned (.tuple #[v,.bool b,.int .i64 E]):=by
  rcases q3.2 with⟨E,_,h⟩|⟨_,_,_,_,_,_,_,_,_,h,_⟩
  ·exact⟨_,_,_,h⟩
  ·exact⟨_,_,_,h⟩
 obtain⟨v3,i3,E3,rfl⟩:=hs1;clear j6 q3
 go_wp2_with fail
 refine j7.mono ?_
 intro e4 W q4;have DR:Hid (Below w2.heap.size w2 W):=qe xg.out q4.1;obtain⟨E,is,n,aa,cA,ga,ra,ab,cB,gb,rb,ac,cC,gc,rc,r1,r2,r3,r4,hF⟩:=qi0 FH.out mG.out FI.out q4;injection r1 with r1;injection r1 with r1;injection r2 with r2;injection r2 with r2;injection r3 with r3;injection r3 with r3;simp at r1 r2 r3
 obtain⟨rfl,rfl⟩:=r1;obtain⟨rfl,rfl⟩:=r2;obtain⟨rfl,rfl,rfl⟩:=r3;subst r4;have HF:=aX hF;have hfew:n<=1025:=hF.few;clear j7 q4 hF FH mG FI HB4 xg HT cH;have x1:((E3:Int) != E3)=false:=by simp
 have x2:(i3 != i3)=false:=by simp
 have x3:((n:Int) != (n:Int))=false:=by simp
 go_wp2
 go_loopw [16] (fun i wr=>∃k:Nat,k<=n/\i=.int .i64 k/\Hid (Fr W wr (Dk ra k) (Dk ra k))) (fun i _=>n-(intOf i).toNat)
 case atStart=>exact⟨0,Nat.zero_le _,rfl,Fr.au (Below.refl _ _)⟩
 case round=>
  clear x1 x2 x3;obtain⟨k,hk,rfl,HK⟩:=hrel;by_cases hlt:k<n
  ·obtain⟨vH,rc',kb,kc,sB,r,hr,ka,hx⟩:=HF.out.row HK.out hlt
   obtain⟨sA,hix,hrl,hcs,hfz⟩:=hx bZ;have SL:Hid _:=sA;have TD:Hid _:=sB;have wY:Hid _:=hix;have yz:Hid _:=hcs;have yW:Hid _:=hfz;have ia:=fun w'=>HF.out.A.idx k w' hlt
   have ib:=fun w'=>HF.out.B.idx k w' hlt
   have ic:=fun w'=>HF.out.C.idx k w' hlt
   have HKA:Hid (∀wy,Fr W wy (Dk ra (k+1)) (Dk ra (k+1))->wy.cell? ⟨ga,k,none⟩=some (.slice r.a r.len r.cap)):=fun wy f=>f.cell (HF.out.A.cell k r hr) (HF.out.na _ (by omega))
   have fQ:Hid (Fr W wr (Dk ra (k+1)) (Dk ra (k+1))):=HK.out.wide (fun q h=>h.mono (by omega))
   have HDK:Hid (∀x,x<r.len->Dk ra (k+1) (aG r.a x).block):=fun x hx=>⟨k,r,x,by omega,hr,hx,rfl⟩
   clear sA sB hix hcs hfz hx hr HK;generalize r.a=pa at *;generalize r.len=pl at *;generalize r.cap=pc at *;generalize vH.a=ba at *;generalize vH.len=bl at *;generalize vH.cap=bc at *;generalize rc'.a=da at *;generalize rc'.len=dl at *;generalize rc'.cap=dc at *
   go_wp2_with fail
   go_quiet (first|(go_at_call 10;exact Calls.quiet_of (SL.out _))|(go_at_call 10;exact Calls.quiet_of (TD.out _)))
   have rC:Hid (Fr W (wr.drewN nq) (Dk ra (k+1)) (Dk ra (k+1))):=fQ.out.drew nq;clear SL TD ib ic kb kc ka fQ;go_wp2
   go_loopw [17] (fun i wy=>∃j:Nat,j<=pl/\i=.int .i64 j/\Hid (Fr W wy (Dk ra (k+1)) (Dk ra (k+1)))/\Hid (∀x,x<pl->∃z,wy.cell? (aG pa x)=some (.int .u64 z))/\Hid (∀x,x<pl->wy.frozen? (aG pa x)=false)) (fun i _=>pl-(intOf i).toNat)
   case atStart=>exact⟨0,Nat.zero_le _,rfl,rC,fun x hx=>yz.out x hx,fun x hx=>yW.out x hx⟩
   case round=>
    clear yz yW rC;obtain⟨j,hj,rfl,HY,HC,HZ⟩:=hrel;have ka:=HKA.out _ HY.out;by_cases hlj:j<pl
    ·obtain⟨z,hz⟩:=HC.out j hlj
     have hf:=HZ.out j hlj;have hi:=fun w'=>wY.out j w' hlj
     have oK:Hid (∀y:Int,Fr W (wr.setCell (aG pa j) (.int .u64 y)) (Dk ra (k+1)) (Dk ra (k+1))):=fun y=>HY.out.oh _ (.inl (HDK.out j hlj))
     have HC2:Hid (∀(y:Int)(x:Nat),x<pl->∃z,(wr.setCell (aG pa j) (.int .u64 y)).cell? (aG pa x)=some (.int .u64 z)):=fun y x hx=>qhn _ _ _ _ (HC.out x hx)
     have HZ2:Hid (∀(y:Int)(x:Nat),x<pl->(wr.setCell (aG pa j) (.int .u64 y)).frozen? (aG pa x)=false):=fun y x hx=>qi7 _ _ _ _ (HZ.out x hx)
     clear HY HC HZ;generalize aG pa j=ad at hz hf hi oK HC2 HZ2
     obtain⟨g0,o0,s0⟩:=ad
     go_wp2_with fail
     go_region
     all_goals
      clear ka hz hf hi ia;go_wp2
      go_roundw
      case rel=>exact⟨j+1,by omega,by go_num,(oK.out _).trans (Fr.au (Below.refl _ _).drew),fun x hx=>HC2.out _ x hx,fun x hx=>HZ2.out _ x hx⟩
      case measure=>simp[intOf];omega
    ·obtain rfl:j=pl:=by omega
     go_wp2
     go_roundw
     case rel=>exact⟨k+1,by omega,by go_num,HY⟩
     case measure=>simp[intOf];omega
  ·obtain rfl:k=n:=by omega
   go_wp2
   go_loopw [18] (fun i wr=>∃j:Nat,j<=k/\i=.int .i64 j/\Hid (Fr W wr (Dk ra k) (Dk ra k))) (fun i _=>k-(intOf i).toNat)
   case atStart=>exact⟨0,Nat.zero_le _,rfl,HK⟩
   case round=>
    clear HK;obtain⟨j,hj,rfl,HK⟩:=hrel;by_cases hlj:j<k
    ·obtain⟨vH,rc',kb,kc,sB,_⟩:=HF.out.row HK.out hlj
     have TD:Hid _:=sB;have ib:=fun w'=>HF.out.B.idx j w' hlj
     have ic:=fun w'=>HF.out.C.idx j w' hlj
     clear sB;generalize vH.a=ba at *;generalize vH.len=bl at *;generalize vH.cap=bc at *;generalize rc'.a=da at *;generalize rc'.len=dl at *;generalize rc'.cap=dc at *
     go_wp2_with fail
     go_quiet ((go_at_call 10;exact Calls.quiet_of (TD.out _)))
     have Ju:Hid (Fr W (wr.drewN nq) (Dk ra k) (Dk ra k)):=HK.out.drew nq;clear TD ib ic kb kc HK;go_wp2
     go_roundw
     case rel=>exact⟨j+1,by omega,by go_num,Ju⟩
     case measure=>simp[intOf];omega
    ·obtain rfl:j=k:=by omega
     have zH:Hid (Below w2.heap.size w2 wr):=DR.out.trans (HK.out.below (fun q h=>HF.out.ge _ q h) DR.out.size)
     have Lr:Hid (Below w.heap.size w wr):=qe HB2.out zH.out;have j8:=q95 g1 la a ca xs wr ((HR1.out.up Lp.out).up zH.out) (HA.out.up Lr.out) (by omega)
     have za:Hid (∀w',Below wr.heap.size wr w'->Calls prog 12 #[.slice (some ⟨g2,0,none⟩) m (m+3),.slice d m c] w' fun e w''=>e=.returned (.bool true)/\Below w'.heap.size w' w''):=fun w' hb=>q94 g2 m d c zs w' ((HR2.out.up zH.out).up hb) ((HL.out.up (qe Lr.out hb)).sl) (by omega)
     go_wp2_with fail
     refine j8.mono ?_
     rintro e w8 ⟨rfl,hb8⟩
     have j9:=za.out w8 hb8;have HB8:Hid (Below w.heap.size w w8):=qe Lr.out hb8;clear j8 hb8 za
     go_wp2_with fail
     refine j9.mono ?_
     rintro e w9 ⟨rfl,zc⟩
     have HB9:Hid (Below w.heap.size w w9):=qe HB8.out zc;clear j9 zc;go_wp2;go_ret
     exact⟨rfl,HB9.out⟩
theorem qg7:cF:=fun a len cap ts b m c zs w hS hL hT=>q7l a len cap ts b m c zs w hS hL hT
theorem q70(a:Option Addr)(la ca:Nat)(xs:List Tk)(d:Option Addr)(m c:Nat)(zs:List Int)(w:World)(hT:fK w)(hA:bG w a la ca xs)(hL:lX w d m c zs):
  Calls prog 3 #[.slice a la ca,.slice d m c] w (BR true w):=q7m qg7 a la ca xs d m c zs w hT hA hL
end Go.Proofs.YtoioiellaomonaaGreatDoor
