/- Texts of the proof, put together: what it uses. -/
import Derived.Lib.QuietBelow
import Derived.BigQuiet
import Derived.Test.YtailhklbmenaoaaGreatDoorX02
import Derived.Test.YtailhklbmenaoaaGreatDoorX03
import Derived.Test.YtailhklbmenaoaaGreatDoorX04
import Derived.Test.YtailhklbmenaoaaGreatDoorX05
import Derived.Test.YtailhklbmenaoaaGreatDoorX07
import Derived.Test.YtailhklbmenaoaaGreatDoorX08
import Derived.Test.YtailhklbmenaoaaGreatDoorX09
import Derived.Test.YtailhklbmenaoaaGreatDoorX10
import Derived.Test.YtailhklbmenaoaaGreatDoorX12
import Derived.Test.YtailhklbmenaoaaGreatDoorX13
import Derived.Test.YtailhklbmenaoaaGreatDoorX15
set_option maxRecDepth 100000
set_option maxHeartbeats 16000000
namespace Go.Proofs.YtailhklbmenaoaaGreatDoor
open Go.RowKit Go.Maps
def mkdA (n ak p g:Nat) (cL:Value) (mp:Nat) (cG:Value):Array Value:=#[.int .i64 (n:Int),.int .i64 (ak:Int),.pointer (some ⟨p,0,none⟩),.pointer (some ⟨g,0,none⟩),cL,.map (some mp),cG]
def pcD (r:PcU):Value:=.slice r.a r.len r.cap
theorem US.sameD{w w':World}{F:Nat->Prop}{a:Option Addr}{n c:Nat}{l:List Nat}(h:US w F a n c l)(hs:w.heap.size<=w'.heap.size)(hk:∀k,k<n->w'.heap[(adOf a k).block]? =w.heap[(adOf a k).block]?){F':Nat->Prop}(hF:∀k,k<n->¬F' (adOf a k).block):US w' F' a n c l:=by
 refine⟨⟨h.sl.hlen,h.sl.hcap,h.sl.bd,h.sl.idx,fun k hk2=>?_,fun k hk2=>Nat.lt_of_lt_of_le (h.sl.blk k hk2) hs,h.sl.nn⟩,hF⟩
 have:=h.sl.cell k hk2
 unfold World.cell? at this ⊢;rw[hk k hk2];exact this
def ChO (own own':Nat->Nat) (i s:Nat):Prop:=∀k,own' k=own k\/(own k=i/\own' k=0)\/(s<=k/\own' k=i)
theorem ChO.refl(own:Nat->Nat)(i s:Nat):ChO own own i s:=fun _=>Or.inl rfl
theorem ChO.pred{own own':Nat->Nat}{i s:Nat}(h:ChO own own' i s)(hl:∀k,own k≠0->k<s){j:Nat}(hj:j≠i)(h0:j≠0):(fun k=>own' k=j)=(fun k=>own k=j):=by
 funext k
 apply propext
 rcases h k with e|⟨e1,e2⟩|⟨e1,e2⟩
 ·rw[e]
 ·constructor<;>intro h<;>omega
 ·constructor
  ·intro h;omega
  ·intro h;have:=hl k (by omega);omega
theorem ChO.at{own own':Nat->Nat}{i s:Nat}(h:ChO own own' i s)(hl:∀k,own k≠0->k<s){j:Nat}(hj:j≠i)(h0:j≠0){k:Nat}(hk:own k=j):own' k=j:=by
 have:=congrFun (h.pred hl hj h0) k
 rw[this];exact hk
theorem ChO.zero{own own':Nat->Nat}{i s:Nat}(h:ChO own own' i s){k:Nat}(hk:own k=0)(hs:k<s):own' k=0:=by
 rcases h k with e|⟨_,e⟩|⟨e,_⟩
 ·rw[e];exact hk
 ·exact e
 ·omega
theorem ChO.fr{own own':Nat->Nat}{i s:Nat}(h:ChO own own' i s){w w':World}(hs:w.heap.size=s)(h0:i≠0)(os:w'.os=w.os)(tp:w'.tape=w.tape)(ou:w'.output=w.output)(hz:w.heap.size<=w'.heap.size)(hk:∀k,k<w.heap.size->own k≠i->w'.heap[k]? =w.heap[k]?):Fr w w' (fun k=>own k≠0) (fun k=>own' k≠0):=by
 refine⟨os,tp,ou,hz,fun k h1 h2=>hk k h1 ?_,fun k h1=>?_⟩
 ·have:own k=0:=Decidable.not_not.1 h2
  omega
 ·rcases h k with e|⟨_,e⟩|⟨e,_⟩
  ·left;rw[<-e];exact h1
  ·exact absurd e h1
  ·right;omega
theorem q8w{own:Nat->Nat}{F':Nat->Prop}{i s:Nat}(h0:i≠0)(hf:∀k,F' k->own k=i\/s<=k):∃own',ChO own own' i s/\(fun k=>own' k=i)=F':=by
 classical
 refine⟨fun k=>if F' k then i else if own k=i then 0 else own k,fun k=>?_,?_⟩
 ·dsimp only
  by_cases h:F' k
  ·rw[if_pos h]
   rcases hf k h with e|e
   ·exact Or.inl e.symm
   ·exact Or.inr (Or.inr ⟨e,rfl⟩)
  ·rw[if_neg h]
   by_cases e:own k=i
   ·rw[if_pos e];exact Or.inr (Or.inl ⟨e,rfl⟩)
   ·rw[if_neg e];exact Or.inl rfl
 ·funext k
  apply propext
  by_cases h:F' k
  ·simp[h]
  ·by_cases e:own k=i
   ·simp[h,e];omega
   ·simp[h,e]
structure MkD (T0:Tr) (vs:Value) (w:World) (own:Nat->Nat) (b p g n ak mp:Nat) (M:Mt) (cL cG vL vG:Value) (ps:List PcU) (R:List Int) (N:List Gd) (nm:Nat) (f:ByteArray->Option Nat):Prop where
 lt:∀k,own k≠0->k<w.heap.size
 prg:∃items,PgO T0 w (fun k=>own k=1) p vs items M
 st:StG w (fun k=>own k=2) g n N
 blk:w.heap[b]? =some (.cells (mkdA n ak p g cL mp cG) 78 (0,0))
 ob:own b=3
 num:NumS w mp nm f
 om:own mp=4
 rl:w.ownsRow 0 46 1 vL ps.length (ps.map pcD)
 ol:∀k,vL.ownBlock=some k->own k=5
 rg:w.ownsRow 0 3 1 vG R.length (R.map (Value.int .i64))
 og:∀k,vG.ownBlock=some k->own k=6
 ls:∀r∈ps,US w (fun k=>own k≠0) r.a r.len r.cap r.ts
 t64:Tab64 w
 t10:Tab10 w
 o64:own tabG=0
 o10:own ptG=0
section
variable {T0:Tr} {vs:Value} {w w':World} {own own':Nat->Nat} {b p g n ak mp nm i:Nat} {M M':Mt} {cL cG vL vG:Value} {ps:List PcU} {R:List Int} {N:List Gd} {f:ByteArray->Option Nat}
theorem MkD.glt(h:MkD T0 vs w own b p g n ak mp M cL cG vL vG ps R N nm f):tabG<w.heap.size:=World.block_lt_of_cell? _ _ (h.t64 0 (by decide))
structure MkK (T0:Tr) (vs:Value) (w':World) (own':Nat->Nat) (b p g n ak mp:Nat) (M:Mt) (cL cG vL vG:Value) (ps:List PcU) (R:List Int) (N:List Gd) (nm:Nat) (f:ByteArray->Option Nat) (i:Nat):Prop where
 lt:(∀k,own' k=i->k<w'.heap.size)->∀k,own' k≠0->k<w'.heap.size
 prg:i≠1->∃items,PgO T0 w' (fun k=>own' k=1) p vs items M
 st:i≠2->StG w' (fun k=>own' k=2) g n N
 blk:i≠3->w'.heap[b]? =some (.cells (mkdA n ak p g cL mp cG) 78 (0,0))
 ob:i≠3->own' b=3
 num:i≠4->NumS w' mp nm f
 om:i≠4->own' mp=4
 rl:i≠5->w'.ownsRow 0 46 1 vL ps.length (ps.map pcD)
 ol:i≠5->∀k,vL.ownBlock=some k->own' k=5
 rg:i≠6->w'.ownsRow 0 3 1 vG R.length (R.map (Value.int .i64))
 og:i≠6->∀k,vG.ownBlock=some k->own' k=6
 ls:∀r∈ps,US w' (fun k=>own' k≠0) r.a r.len r.cap r.ts
 t64:Tab64 w'
 t10:Tab10 w'
 o64:own' tabG=0
 o10:own' ptG=0
theorem MkD.keep(h:MkD T0 vs w own b p g n ak mp M cL cG vL vG ps R N nm f)(hc:ChO own own' i w.heap.size)(h0:i≠0)(hs:w.heap.size<=w'.heap.size)(hk:∀k,k<w.heap.size->own k≠i->w'.heap[k]? =w.heap[k]?):MkK T0 vs w' own' b p g n ak mp M cL cG vL vG ps R N nm f i:=by
 have hz:∀k,own k=0->k<w.heap.size->w'.heap[k]? =w.heap[k]? := fun k h1 h2=>hk k h2 (by omega)
 refine⟨fun hi k h1=>?_,fun hi=>?_,fun hi=>?_,fun hi=>?_,fun hi=>hc.at h.lt (Ne.symm hi) (by decide) h.ob,fun hi=>?_,fun hi=>hc.at h.lt (Ne.symm hi) (by decide) h.om,fun hi=>?_,fun hi k hv=>hc.at h.lt (Ne.symm hi) (by decide) (h.ol k hv),fun hi=>?_,fun hi k hv=>hc.at h.lt (Ne.symm hi) (by decide) (h.og k hv),fun r hr=>?_,?_,?_,hc.zero h.o64 h.glt,hc.zero h.o10 h.t10.lt⟩
 ·rcases hc k with e|⟨_,e⟩|⟨_,e⟩
  ·exact Nat.lt_of_lt_of_le (h.lt k (by rw[<-e];exact h1)) hs
  ·exact absurd e h1
  ·exact hi k e
 ·obtain⟨items,hp⟩:=h.prg
  rw[hc.pred h.lt (Ne.symm hi) (by decide)]
  exact⟨items,hp.far fun k h1=>hk k (hp.lt k h1) (by omega)⟩
 ·rw[hc.pred h.lt (Ne.symm hi) (by decide)]
  exact h.st.far fun k h1=>hk k (h.st.lt k h1) (by omega)
 ·exact(hk b (h.lt b (by rw[h.ob];decide)) (by rw[h.ob];exact Ne.symm hi)).trans h.blk
 ·exact h.num.far (hk mp h.num.lt (by rw[h.om];exact Ne.symm hi))
 ·exact qs h.rl fun k h1=>hk k (qS h.rl k h1) (by rw[h.ol k h1];exact Ne.symm hi)
 ·exact qs h.rg fun k h1=>hk k (qS h.rg k h1) (by rw[h.og k h1];exact Ne.symm hi)
 ·have hu:=h.ls r hr
  exact hu.sameD hs (fun k h1=>hz _ (Decidable.not_not.1 (hu.nf k h1)) (hu.sl.blk k h1)) fun k h1=>not_not_intro (hc.zero (Decidable.not_not.1 (hu.nf k h1)) (hu.sl.blk k h1))
 ·intro j hj
  have:=h.t64 j hj
  unfold World.cell? at this ⊢;have e:=hz tabG h.o64 h.glt;unfold tabG at e;rw[e];exact this
 ·exact h.t10.keep (hz ptG h.o10 h.t10.lt)
theorem MkD.up(h:MkD T0 vs w own b p g n ak mp M cL cG vL vG ps R N nm f)(hb:Below w.heap.size w w'):MkD T0 vs w' own b p g n ak mp M cL cG vL vG ps R N nm f:=by
 have k:=h.keep (i:=7) (ChO.refl own 7 _) (by decide) hb.size (fun k h1 _=>hb.block k h1)
 exact⟨fun k h1=>Nat.lt_of_lt_of_le (h.lt k h1) hb.size,k.prg (by decide),k.st (by decide),k.blk (by decide),h.ob,k.num (by decide),h.om,k.rl (by decide),h.ol,k.rg (by decide),h.og,k.ls,k.t64,k.t10,h.o64,h.o10⟩
theorem MkD.frP{F':Nat->Prop}(h:MkD T0 vs w own b p g n ak mp M cL cG vL vG ps R N nm f)(hP:∃items,PgO T0 w' F' p vs items M')(fr:Fr w w' (fun k=>own k=1) F'):∃own',MkD T0 vs w' own' b p g n ak mp M' cL cG vL vG ps R N nm f/\Fr w w' (fun k=>own k≠0) (fun k=>own' k≠0)/\∀k,own' k≠0->k<w.heap.size\/F' k:=by
 obtain⟨own',hc,e⟩:=q8w (own:=own) (i:=1) (by decide) (fun k hk=>fr.foot k hk)
 have hk:∀k,k<w.heap.size->own k≠1->w'.heap[k]? =w.heap[k]? := fun k h1 h2=>fr.keep k h1 h2
 have k:=h.keep hc (by decide) fr.size hk
 refine⟨own',⟨k.lt fun z hz=>?_,by rw[e];exact hP,k.st (by decide),k.blk (by decide),k.ob (by decide),k.num (by decide),k.om (by decide),k.rl (by decide),k.ol (by decide),k.rg (by decide),k.og (by decide),k.ls,k.t64,k.t10,k.o64,k.o10⟩,hc.fr rfl (by decide) fr.os fr.tape fr.output fr.size hk,fun z hz=>?_⟩
 rotate_left
 ·rcases hc z with h1|⟨_,h1⟩|⟨_,h1⟩
  ·exact Or.inl (h.lt z (by rw[<-h1];exact hz))
  ·exact absurd h1 hz
  ·exact Or.inr ((congrFun e z).mp h1)
 have hz2:F' z:=by
  have:=congrFun e z
  rw[<-this];exact hz
 obtain⟨items,hp⟩:=hP;exact hp.lt z hz2
theorem MkD.frS{F':Nat->Prop}{N':List Gd}(h:MkD T0 vs w own b p g n ak mp M cL cG vL vG ps R N nm f)(hP:StG w' F' g n N')(fr:Fr w w' (fun k=>own k=2) F'):∃own',MkD T0 vs w' own' b p g n ak mp M cL cG vL vG ps R N' nm f/\Fr w w' (fun k=>own k≠0) (fun k=>own' k≠0):=by
 obtain⟨own',hc,e⟩:=q8w (own:=own) (i:=2) (by decide) (fun k hk=>fr.foot k hk)
 have hk:∀k,k<w.heap.size->own k≠2->w'.heap[k]? =w.heap[k]? := fun k h1 h2=>fr.keep k h1 h2
 have k:=h.keep hc (by decide) fr.size hk
 refine⟨own',⟨k.lt fun z hz=>?_,k.prg (by decide),by rw[e];exact hP,k.blk (by decide),k.ob (by decide),k.num (by decide),k.om (by decide),k.rl (by decide),k.ol (by decide),k.rg (by decide),k.og (by decide),k.ls,k.t64,k.t10,k.o64,k.o10⟩,hc.fr rfl (by decide) fr.os fr.tape fr.output fr.size hk⟩
 have hz2:F' z:=by
  have:=congrFun e z
  rw[<-this];exact hz
 exact hP.lt z hz2
theorem MkD.put{nm':Nat}{f':ByteArray->Option Nat}(h:MkD T0 vs w own b p g n ak mp M cL cG vL vG ps R N nm f)(hg:w.grownBy w' (some mp))(hn:NumS w' mp nm' f'):MkD T0 vs w' own b p g n ak mp M cL cG vL vG ps R N nm' f'/\Fr w w' (fun k=>own k≠0) (fun k=>own k≠0):=by
 have hc:ChO own own 4 w.heap.size:=ChO.refl _ _ _
 have hk:∀k,k<w.heap.size->own k≠4->w'.heap[k]? =w.heap[k]? := fun k h1 h2=>hg.block k h1 fun e=>by
  injection e with e;exact h2 (e ▸ h.om)
 have k:=h.keep hc (by decide) hg.size hk
 exact⟨⟨fun z hz=>Nat.lt_of_lt_of_le (h.lt z hz) hg.size,k.prg (by decide),k.st (by decide),k.blk (by decide),h.ob,hn,h.om,k.rl (by decide),h.ol,k.rg (by decide),h.og,k.ls,k.t64,k.t10,h.o64,h.o10⟩,hc.fr rfl (by decide) hg.os hg.tape hg.output hg.size hk⟩
theorem MkD.growL{w1:World}{vL':Value}{ps':List PcU}(h:MkD T0 vs w own b p g n ak mp M cL cG vL vG ps R N nm f)(hb1:Below w.heap.size w w1)(hg:w1.grownBy w' vL.ownBlock)(ho:w'.ownsRow 0 46 1 vL' ps'.length (ps'.map pcD))(hl:vL'.ownBlock=vL.ownBlock\/vL'.ownBlock=some w1.heap.size)(hls:∀r∈ps',r∈ps\/US w (fun k=>own k≠0) r.a r.len r.cap r.ts):
  ∃own',MkD T0 vs w' own' b p g n ak mp M cL cG vL' vG ps' R N nm f/\Fr w w' (fun k=>own k≠0) (fun k=>own' k≠0):=by
 obtain⟨own',hc,e⟩:=q8w (own:=own) (F':=fun k=>vL'.ownBlock=some k) (i:=5) (s:=w.heap.size) (by decide) fun k hk=>by
  rcases hl with e|e
  ·rw[e]at hk;exact Or.inl (h.ol k hk)
  ·rw[e]at hk;injection hk with hk;right;rw[<-hk];exact hb1.size
 have hs:w.heap.size<=w'.heap.size:=Nat.le_trans hb1.size hg.size;have hk:∀k,k<w.heap.size->own k≠5->w'.heap[k]? =w.heap[k]? := fun k h1 h2=>(hg.block k (Nat.lt_of_lt_of_le h1 hb1.size) fun e=>h2 (h.ol k e.symm)).trans (hb1.block k h1)
 have k:=h.keep hc (by decide) hs hk
 refine⟨_,⟨k.lt fun z hz=>?_,k.prg (by decide),k.st (by decide),k.blk (by decide),k.ob (by decide),k.num (by decide),k.om (by decide),ho,fun z hz=>(congrFun e z).mpr hz,k.rg (by decide),k.og (by decide),fun r hr=>?_,k.t64,k.t10,k.o64,k.o10⟩,hc.fr rfl (by decide) (hg.os.trans hb1.os) (hg.tape.trans hb1.tape) (hg.output.trans hb1.output) hs hk⟩
 ·have hz2:vL'.ownBlock=some z:=(congrFun e z).mp hz
  exact qS ho z hz2
 ·rcases hls r hr with hr|hu
  ·exact k.ls r hr
  ·exact hu.sameD hs (fun z h1=>hk _ (hu.sl.blk z h1) (by have:=Decidable.not_not.1 (hu.nf z h1);omega)) fun z h1=>not_not_intro (hc.zero (Decidable.not_not.1 (hu.nf z h1)) (hu.sl.blk z h1))
theorem MkD.growG{w1:World}{vG':Value}{R':List Int}(h:MkD T0 vs w own b p g n ak mp M cL cG vL vG ps R N nm f)(hb1:Below w.heap.size w w1)(hg:w1.grownBy w' vG.ownBlock)(ho:w'.ownsRow 0 3 1 vG' R'.length (R'.map (Value.int .i64)))(hl:vG'.ownBlock=vG.ownBlock\/vG'.ownBlock=some w1.heap.size):
  ∃own',MkD T0 vs w' own' b p g n ak mp M cL cG vL vG' ps R' N nm f/\Fr w w' (fun k=>own k≠0) (fun k=>own' k≠0):=by
 obtain⟨own',hc,e⟩:=q8w (own:=own) (F':=fun k=>vG'.ownBlock=some k) (i:=6) (s:=w.heap.size) (by decide) fun k hk=>by
  rcases hl with e|e
  ·rw[e]at hk;exact Or.inl (h.og k hk)
  ·rw[e]at hk;injection hk with hk;right;rw[<-hk];exact hb1.size
 have hs:w.heap.size<=w'.heap.size:=Nat.le_trans hb1.size hg.size;have hk:∀k,k<w.heap.size->own k≠6->w'.heap[k]? =w.heap[k]? := fun k h1 h2=>(hg.block k (Nat.lt_of_lt_of_le h1 hb1.size) fun e=>h2 (h.og k e.symm)).trans (hb1.block k h1)
 have k:=h.keep hc (by decide) hs hk
 refine⟨_,⟨k.lt fun z hz=>?_,k.prg (by decide),k.st (by decide),k.blk (by decide),k.ob (by decide),k.num (by decide),k.om (by decide),k.rl (by decide),k.ol (by decide),ho,fun z hz=>(congrFun e z).mpr hz,k.ls,k.t64,k.t10,k.o64,k.o10⟩,hc.fr rfl (by decide) (hg.os.trans hb1.os) (hg.tape.trans hb1.tape) (hg.output.trans hb1.output) hs hk⟩
 have hz2:vG'.ownBlock=some z:=(congrFun e z).mp hz;exact qS ho z hz2
theorem MkD.set3{cL' cG' v:Value}{j:Nat}(h:MkD T0 vs w own b p g n ak mp M cL cG vL vG ps R N nm f)(hj:(mkdA n ak p g cL mp cG).setIfInBounds j v=mkdA n ak p g cL' mp cG'):MkD T0 vs (w.setCell ⟨b,j,none⟩ v) own b p g n ak mp M cL' cG' vL vG ps R N nm f/\Fr w (w.setCell ⟨b,j,none⟩ v) (fun k=>own k≠0) (fun k=>own k≠0):=by
 have hc:ChO own own 3 w.heap.size:=ChO.refl _ _ _
 have hk:∀k,k<w.heap.size->own k≠3->(w.setCell ⟨b,j,none⟩ v).heap[k]? =w.heap[k]? := fun k h1 h2=>Below.heap_setCell _ _ _ _ fun e=>by
  have e2:k=b:=e;exact h2 (e2 ▸ h.ob)
 have hs:w.heap.size<=(w.setCell ⟨b,j,none⟩ v).heap.size:=by simp
 have k:=h.keep hc (by decide) hs hk
 refine⟨⟨fun z hz=>Nat.lt_of_lt_of_le (h.lt z hz) hs,k.prg (by decide),k.st (by decide),?_,h.ob,k.num (by decide),h.om,k.rl (by decide),h.ol,k.rg (by decide),h.og,k.ls,k.t64,k.t10,h.o64,h.o10⟩,hc.fr rfl (by decide) rfl rfl rfl hs hk⟩
 rw[heap_setCell_same w b j _ _ _ h.blk,hj]
theorem MkD.cn(h:MkD T0 vs w own b p g n ak mp M cL cG vL vG ps R N nm f):w.cell? ⟨b,0,none⟩=some (.int .i64 (n:Int)):=qb h.blk 0
theorem MkD.ca(h:MkD T0 vs w own b p g n ak mp M cL cG vL vG ps R N nm f):w.cell? ⟨b,1,none⟩=some (.int .i64 (ak:Int)):=qb h.blk 1
theorem MkD.cp(h:MkD T0 vs w own b p g n ak mp M cL cG vL vG ps R N nm f):w.cell? ⟨b,2,none⟩=some (.pointer (some ⟨p,0,none⟩)):=qb h.blk 2
theorem MkD.cs(h:MkD T0 vs w own b p g n ak mp M cL cG vL vG ps R N nm f):w.cell? ⟨b,3,none⟩=some (.pointer (some ⟨g,0,none⟩)):=qb h.blk 3
theorem MkD.cl(h:MkD T0 vs w own b p g n ak mp M cL cG vL vG ps R N nm f):w.cell? ⟨b,4,none⟩=some cL:=qb h.blk 4
theorem MkD.cm(h:MkD T0 vs w own b p g n ak mp M cL cG vL vG ps R N nm f):w.cell? ⟨b,5,none⟩=some (.map (some mp)):=qb h.blk 5
theorem MkD.cg(h:MkD T0 vs w own b p g n ak mp M cL cG vL vG ps R N nm f):w.cell? ⟨b,6,none⟩=some cG:=qb h.blk 6
theorem MkD.fz(h:MkD T0 vs w own b p g n ak mp M cL cG vL vG ps R N nm f)(j:Nat):w.frozen? ⟨b,j,none⟩=false:=frozen_of_row w b j _ _ h.blk
theorem MkD.off(h:MkD T0 vs w own b p g n ak mp M cL cG vL vG ps R N nm f){z:Nat}(hz:own z=0)(hl:∀r∈ps,∀k,k<r.len->(adOf r.a k).block≠z)(h64:z≠tabG)(h10:z≠ptG)(j:Nat)(v:Value):MkD T0 vs (w.setCell ⟨z,j,none⟩ v) own b p g n ak mp M cL cG vL vG ps R N nm f:=by
 have s6:∀k,k≠z->(w.setCell ⟨z,j,none⟩ v).heap[k]? =w.heap[k]? := fun k hk=>Below.heap_setCell _ _ _ _ hk
 have so:∀k,own k≠0->(w.setCell ⟨z,j,none⟩ v).heap[k]? =w.heap[k]? := fun k hk=>s6 k fun e=>hk (e ▸ hz)
 have hs:w.heap.size<=(w.setCell ⟨z,j,none⟩ v).heap.size:=by simp
 obtain⟨items,hp⟩:=h.prg;refine⟨fun k hk=>Nat.lt_of_lt_of_le (h.lt k hk) hs,⟨items,hp.far fun k h1=>so k (by omega)⟩,h.st.far fun k h1=>so k (by omega),(so b (by rw[h.ob];decide)).trans h.blk,h.ob,h.num.far (so mp (by rw[h.om];decide)),h.om,qs h.rl fun k h1=>so k (by rw[h.ol k h1];decide),h.ol,qs h.rg fun k h1=>so k (by rw[h.og k h1];decide),h.og,fun r hr=>(h.ls r hr).sameD hs (fun k h1=>s6 _ (hl r hr k h1)) (h.ls r hr).nf,?_,h.t10.keep (s6 ptG (Ne.symm h10)),h.o64,h.o10⟩
 intro j2 hj;have:=h.t64 j2 hj
 unfold World.cell? at this ⊢;have e:=s6 tabG (Ne.symm h64);unfold tabG at e;rw[e];exact this
end
def DkO (T0:Tr) (vs:Value) (w:World) (own:Nat->Nat) (b n ak:Nat) (M:Mt) (S:List (List Nat)) (R:List Int) (N:List Gd):Prop :=
 ∃p g mp vL vG ps,MkD T0 vs w own b p g n ak mp M vL vG vL vG ps R N S.length (posT S)/\ps.map PcU.ts=S/\S.length<=256
def StE (T0:Tr) (vs:Value) (w:World) (own:Nat->Nat) (b n ak:Nat) (M:Mt) (S:List (List Nat)) (R:List Int) (N:List Gd) (L:List Nat) (e:Ending) (w':World):Prop :=
 ∃own',Fr w w' (fun k=>own k≠0) (fun k=>own' k≠0)/\((putD L S=none/\e=.returned (.tuple #[.int .i64 0,.int .i64 10])/\DkO T0 vs w' own' b n ak M S R N)\/∃j S1,putD L S=some (j,S1)/\e=.returned (.tuple #[.int .i64 (j:Int),.int .i64 0])/\DkO T0 vs w' own' b n ak M S1 R N)
section
variable {T0:Tr} {vs:Value} {w w':World} {own:Nat->Nat} {b n ak:Nat} {M:Mt} {S:List (List Nat)} {R:List Int} {N:List Gd}
theorem DkO.up(h:DkO T0 vs w own b n ak M S R N)(hb:Below w.heap.size w w'):DkO T0 vs w' own b n ak M S R N:=by
 obtain⟨p,g,mp,vL,vG,ps,hr,h2⟩:=h;exact⟨p,g,mp,vL,vG,ps,hr.up hb,h2⟩
theorem DkO.lt(h:DkO T0 vs w own b n ak M S R N):∀k,own k≠0->k<w.heap.size:=by
 obtain⟨p,g,mp,vL,vG,ps,hr,h2⟩:=h;exact hr.lt
end
theorem qix{L:List Nat}(hs:Sm L)(hl:L.length<=1024):SOk (txS L):=by
 have:=q7C L hs
 have e:(txS L).size=(txtD L).length:=by simp[txS,ByteArray.size]
 unfold SOk
 omega
theorem qaX:(Tryz.prog.info? 46).map (fun i=>(i.zero,i.size,i.bytes))=some (some (.slice none 0 0),1,24):=by kernel_rfl
theorem q43{T0:Tr}{vs:Value}{w:World}{own:Nat->Nat}{b n ak:Nat}{M:Mt}{S:List (List Nat)}{R:List Int}{N:List Gd}(h:DkO T0 vs w own b n ak M S R N)(a:Option Addr)(m c:Nat)(L:List Nat)(hU:US w (fun k=>own k≠0) a m c L)(hs:Sm L)(hl:m<=1024):
  Calls Tryz.prog 68 #[.pointer (some ⟨b,0,none⟩),.slice a m c] w (StE T0 vs w own b n ak M S R N L):=by
 obtain⟨Q,hQ⟩:∃Q:Ending->World->Prop,Q=StE T0 vs w own b n ak M S R N L:=⟨_,rfl⟩
 have HQ:Hid (∀e w',StE T0 vs w own b n ak M S R N L e w'->Q e w'):=fun e w' h=>by rw[hQ];exact h
 rw[<-hQ];clear hQ;obtain⟨p,g,mp,vL,vG,ps,hr,hps,hfew⟩:=h;have jt:=qbu a m c L w hU.sl hs hl hr.t10;have hml:=hU.sl.len;have hok:SOk (txS L):=qix hs (by omega)
 have hpl:ps.length=S.length:=by rw[<-hps];simp
 by_cases hm:L∈S
 ·have HN:Hid (∀w1,Below w.heap.size w w1->w1.cell? ⟨b,5,none⟩=some (.map (some mp))/\(Instr.lookup 76 (.map (some mp)) (.string (txS L)) true).run Tryz.prog w1=.ok (.tuple #[.int .i64 ((S.idxOf L:Nat):Int),.bool true]) w1/\Q (.returned (.tuple #[.int .i64 ((S.idxOf L:Nat):Int),.int .i64 0])) w1):=fun w1 hb=>by
   have h1:=hr.up hb;have hlook:=h1.num.look hok;rw[qe4 hm]at hlook;exact⟨h1.cm,hlook,HQ.out _ _ ⟨own,Fr.ofBelow hb,Or.inr ⟨_,S,by unfold putD;rw[if_pos hm],rfl,p,g,mp,vL,vG,ps,h1,hps,hfew⟩⟩⟩
  generalize S.idxOf L=j at *;generalize txS L=X at *;clear hr hps hfew hU hs hl hok hml hpl HQ hm;go_enter Tryz.func68,Tryz.ntmps68
  go_wp2_with fail
  refine jt.mono ?_
  rintro e w1 ⟨rfl,hb⟩
  obtain⟨cm,hlook,hR⟩:=HN.out w1 hb;have HR:Hid _:=hR;clear HN hR hb jt;go_wp2;exact HR.out
 ·obtain⟨aL,kL,rfl⟩:=q2b hr.rl
  by_cases hL:S.length=256
  ·have HN:Hid (∀w1,Below w.heap.size w w1->w1.cell? ⟨b,5,none⟩=some (.map (some mp))/\w1.cell? ⟨b,4,none⟩=some (.slice aL ps.length kL)/\(Instr.lookup 76 (.map (some mp)) (.string (txS L)) true).run Tryz.prog w1=.ok (.tuple #[.int .i64 0,.bool false]) w1/\Q (.returned (.tuple #[.int .i64 0,.int .i64 10])) w1):=fun w1 hb=>by
    have h1:=hr.up hb;have hlook:=h1.num.look hok;rw[q7v hm]at hlook;exact⟨h1.cm,h1.cl,hlook,HQ.out _ _ ⟨own,Fr.ofBelow hb,Or.inl ⟨by unfold putD;rw[if_neg hm,if_pos (by omega)],rfl,p,g,mp,_,vG,ps,h1,hps,hfew⟩⟩⟩
   have he:((ps.length:Int)==256)=true:=by rw[hpl,hL];rfl
   generalize ps.length=K at *;generalize txS L=X at *;clear hr hps hfew hU hs hl hok hml hpl HQ hm hL;go_enter Tryz.func68,Tryz.ntmps68
   go_wp2_with fail
   refine jt.mono ?_
   rintro e w1 ⟨rfl,hb⟩
   obtain⟨cm,cl,hlook,hR⟩:=HN.out w1 hb;have HR:Hid _:=hR;clear HN hR hb jt;go_wp2;exact HR.out
  ·have hlt:S.length<256:=by omega
   have HN:Hid (∀w1,Below w.heap.size w w1->w1.cell? ⟨b,5,none⟩=some (.map (some mp))/\w1.cell? ⟨b,4,none⟩=some (.slice aL ps.length kL)/\(Instr.lookup 76 (.map (some mp)) (.string (txS L)) true).run Tryz.prog w1=.ok (.tuple #[.int .i64 0,.bool false]) w1 /\
     ∃w4,(Instr.mapUpdate 76 (.map (some mp)) (.string (txS L)) (.int .i64 (ps.length:Int))).run Tryz.prog w1=.ok () w4/\w4.cell? ⟨b,4,none⟩=some (.slice aL ps.length kL)/\(w4.alloc (.cells #[.slice a m c] 46)).ownsRow 0 46 1 (.slice aL ps.length kL) ps.length (ps.map pcD)/\(w4.alloc (.cells #[.slice a m c] 46)).cell? ⟨w4.heap.size,0,none⟩=some (.slice a m c) /\
      ∀w5 v',(w4.alloc (.cells #[.slice a m c] 46)).grownBy w5 (Value.slice aL ps.length kL).ownBlock->w5.ownsRow 0 46 1 v' (ps.length+1) (ps.map pcD++[.slice a m c])->(v'.ownBlock=(Value.slice aL ps.length kL).ownBlock\/v'.ownBlock=some (w4.alloc (.cells #[.slice a m c] 46)).heap.size)->w5.cell? ⟨b,4,none⟩=some (.slice aL ps.length kL)/\w5.frozen? ⟨b,4,none⟩=false/\Q (.returned (.tuple #[.int .i64 (ps.length:Int),.int .i64 0])) (w5.setCell ⟨b,4,none⟩ v')):=fun w1 hb=>by
    have h1:=hr.up hb;have hlook:=h1.num.look hok;rw[q7v hm]at hlook;obtain⟨w4,hrun,hn4,hg4⟩:=h1.num.put (by omega) hok (q7v hm) S.length (by omega)
    obtain⟨h4,f4⟩:=h1.put hg4 (hn4.alike fun y _=>qfS hm y)
    rw[<-hpl]at hrun;refine⟨h1.cm,h1.cl,hlook,w4,hrun,h4.cl,World.ownsRow.alloc h4.rl _,qb (mha w4 _).1 0,fun w5 v' hg ho hv=>?_⟩
    have hU4:=(hU.up hb).fr f4
    obtain⟨own5,h5,f5⟩:=h4.growL (ps':=ps++[(⟨a,m,c,L⟩:PcU)]) (qc w4 _) hg (by rw[List.length_append,List.map_append];exact ho) hv (fun r hr=>by
     rcases List.mem_append.1 hr with h|h
     ·exact Or.inl h
     ·have:r=⟨a,m,c,L⟩:=by simpa using h
      subst this;exact Or.inr hU4)
    obtain⟨h6,f6⟩:=h5.set3 (cL':=v') (cG':=vG) (j:=4) (v:=v') rfl;refine⟨h5.cl,h5.fz 4,HQ.out _ _ ⟨own5,(((Fr.ofBelow hb).trans f4).trans f5).trans f6,Or.inr ⟨ps.length,S++[L],by unfold putD;rw[if_neg hm,if_neg (by omega),hpl],rfl,p,g,mp,v',vG,ps++[(⟨a,m,c,L⟩:PcU)],?_,by rw[List.map_append,hps];rfl,by simp;omega⟩⟩⟩
    rw[List.length_append];exact h6
   have hne:((ps.length:Int)==256)=false:=by simp;omega
   have hkl:ps.length<256:=by omega
   generalize hK:ps.length=K at *;generalize txS L=X at *;clear hr hps hfew hU hs hl hok hml hpl HQ hm hL hlt hK;go_enter Tryz.func68,Tryz.ntmps68
   go_wp2_with fail
   refine jt.mono ?_
   rintro e w1 ⟨rfl,hb⟩
   obtain⟨cm,cl,hlook,w4,hrun,cl4,hO,hC,hfin⟩:=HN.out w1 hb;have HF:Hid _:=hfin;clear HN hb jt hfin
   go_wp2_with (at_builtin;refine q2z Tryz.underlying41 qaX rfl (by decide) rfl _ _ rfl 0 _ K (ps.map pcD) (.slice a m c) w4.heap.size rfl rfl hO hC rfl (by omega) (Nat.zero_le _) ?_)
   intro v5 w5 hown5 hgr5 hloc5;obtain⟨a5,k5,rfl⟩:=q2b hown5;obtain⟨c5,z5,hR⟩:=HF.out w5 _ hgr5 hown5 (by simpa using hloc5)
   have HR:Hid _:=hR;clear hown5 hgr5 hloc5 HF hR hO hC cl4 hrun hlook cm cl;go_wp2;exact HR.out
def inV (z:Nat):Value:=.int .i64 (z:Int)
def IwR (w:World) (g:Nat) (zs:List Nat):Prop:=w.heap[g]? =some (.cells (zs.map inV).toArray 3 (0,0))
theorem IwR.lt{w:World}{g:Nat}{zs:List Nat}(h:IwR w g zs):g<w.heap.size:=(aes h).1
theorem IwR.cell{w:World}{g:Nat}{zs:List Nat}(h:IwR w g zs){i z:Nat}(hi:zs[i]? =some z):w.cell? ⟨g,i,none⟩=some (.int .i64 (z:Int)):=by
 unfold IwR at h;rw[qb h i];simp[hi,inV]
theorem IwR.fz{w:World}{g:Nat}{zs:List Nat}(h:IwR w g zs)(i:Nat):w.frozen? ⟨g,i,none⟩=false:=frozen_of_row w g i _ _ h
theorem IwR.set{w:World}{g:Nat}{zs:List Nat}(h:IwR w g zs)(i z:Nat):IwR (w.setCell ⟨g,i,none⟩ (.int .i64 (z:Int))) g (zs.set i z):=by
 unfold IwR at h ⊢;rw[heap_setCell_same w g i _ _ _ h]
 congr 2
 simp[inV]
theorem q3v:(Tryz.prog.info? 3).map (·.size)=some 1:=by kernel_rfl
theorem q5m:(Tryz.prog.info? 3).map (fun i=>(i.zero,i.size,i.bytes))=some (some (.int .i64 0),1,8):=by kernel_rfl
theorem q7O(g n i:Nat)(hi:i<n)(w:World):(Instr.indexAt 29 (.slice (some ⟨g,0,none⟩) n n) (.int .i64 (i:Int))).run Tryz.prog w=.ok (.pointer (some ⟨g,i,none⟩)) w:=by
 simp[Instr.indexAt,run_underlying Tryz.underlying29,asIntOf,q1c q3v,hi,Result.andThen,go_sem,qg]
theorem qiU(n:Nat):madeCells #[.int .i64 0] n=Array.replicate n (Value.int .i64 0):=by
 unfold madeCells
 apply Array.ext
 ·simp
 ·intro i h1 h2
  simp[Nat.mod_one]
theorem qdn(l:Nat)(hb:l<=100000)(w:World):
  (Instr.makeSlice 29 (.int .i64 (l:Int)) (.int .i64 (l:Int))).run Tryz.prog w=.ok (.slice (some ⟨w.heap.size,0,none⟩) l l) (w.alloc (.cells (Array.replicate l (Value.int .i64 0)) 3)):=by
 obtain⟨i,hi,hz0,hz1,hz2⟩:=info_parts q5m;have:=run_make (P:=Tryz.prog) w 29 3 i (.int .i64 0) Tryz.underlying29 hi hz0 .i64 .i64 (l:Int) (l:Int) (by omega) (by omega) (by rw[hz2];omega) (by omega)
 rw[this,hz1];simp only[Int.toNat_natCast,Nat.mul_one]
 have e:(Value.int .i64 0).cells=#[.int .i64 0]:=rfl;rw[e,qiU]
theorem IwR.made(w:World)(l:Nat):IwR (w.alloc (.cells (Array.replicate l (Value.int .i64 0)) 3)) w.heap.size (List.replicate l 0):=by
 unfold IwR;rw[(MapKept.heap_alloc w _).1];simp[inV]
theorem USl.offI{w:World}{a:Option Addr}{n c:Nat}{l:List Nat}(h:USl w a n c l){g:Nat}{zs:List Nat}(hr:IwR w g zs):∀k,k<n->(adOf a k).block≠g:=fun k hk e=>by
 have hc:=h.cell k hk;unfold World.cell? at hc;unfold IwR at hr;rw[e,hr]at hc
 cases hq:zs[(adOf a k).off]? with
 |none=>simp[hq]at hc
 |some y=>simp[hq,inV]at hc
theorem DkO.offI{T0:Tr}{vs:Value}{w:World}{own:Nat->Nat}{b n ak:Nat}{M:Mt}{S:List (List Nat)}{R:List Int}{N:List Gd}(h:DkO T0 vs w own b n ak M S R N){g:Nat}{zs:List Nat}(hr:IwR w g zs)(hg:own g=0)(h64:g≠tabG)(h10:g≠ptG)(j:Nat)(v:Value):DkO T0 vs (w.setCell ⟨g,j,none⟩ v) own b n ak M S R N:=by
 obtain⟨p,gs,mp,vL,vG,ps,hk,h2⟩:=h;exact⟨p,gs,mp,vL,vG,ps,hk.off hg (fun r hm=>(hk.ls r hm).sl.offI hr) h64 h10 j v,h2⟩
theorem US.offI{w:World}{F:Nat->Prop}{a:Option Addr}{n c:Nat}{l:List Nat}(h:US w F a n c l){g:Nat}{zs:List Nat}(hr:IwR w g zs)(j:Nat)(v:Value):US (w.setCell ⟨g,j,none⟩ v) F a n c l :=
 h.sameD (by simp) (fun k hk=>Below.heap_setCell _ _ _ _ (h.sl.offI hr k hk)) h.nf
theorem US.pred{w:World}{own:Nat->Nat}{i:Nat}{a:Option Addr}{n c:Nat}{l:List Nat}(h:US w (fun k=>own k≠0) a n c l)(hi:i≠0):US w (fun k=>own k=i) a n c l:=⟨h.sl,fun k hk e=>h.nf k hk (by rw[e];exact hi)⟩
section
variable {T0:Tr} {vs:Value} {w:World} {own:Nat->Nat} {b n ak:Nat} {M:Mt} {S:List (List Nat)} {R:List Int} {N:List Gd}
theorem DkO.step(h:DkO T0 vs w own b n ak M S R N){a:Option Addr}{m c:Nat}{l:List Nat}(hU:US w (fun k=>own k≠0) a m c l)(hm:m<=1024)(hb:BdL l M.length){x:Nat}(hx:x<256):
  ∃p,w.cell? ⟨b,2,none⟩=some (.pointer (some ⟨p,0,none⟩))/\w.cell? ⟨b,1,none⟩=some (.int .i64 (ak:Int))/\Calls Tryz.prog 98 #[.pointer (some ⟨p,0,none⟩),.slice a m c,.int .u8 (x:Int)] w fun e w'=>∃own',Fr w w' (fun k=>own k≠0) (fun k=>own' k≠0) /\
   ((stepM fuelN x l [] M=none/\e=.returned (.tuple #[.slice none 0 0,.int .i64 9]))\/∃L M' q' d',stepM fuelN x l [] M=some (L,M')/\e=.returned (.tuple #[.slice q' L.length d',.int .i64 0])/\US w' (fun k=>own' k≠0) q' L.length d' L/\DkO T0 vs w' own' b n ak M' S R N):=by
 obtain⟨p,g,mp,vL,vG,ps,hk,h2⟩:=h;refine⟨p,hk.cp,hk.ca,?_⟩
 obtain⟨items,hP⟩:=hk.prg;obtain rfl:l.length=m:=hU.sl.len.symm
 refine (q9h hx hP hk.t64 (by rw[hk.o64];decide) a c l ⟨hU.pred (by decide),hm,hb⟩).mono ?_
 rintro e w' ⟨F',i',fr,⟨hs,rfl,hO⟩|⟨L,M',q',d',hs,rfl,hU',hO,hnw⟩⟩
 ·obtain⟨own',h3,f3,_⟩:=hk.frP ⟨i',hO⟩ fr
  exact⟨own',f3,Or.inl ⟨hs,rfl⟩⟩
 ·obtain⟨own',h3,f3,h4⟩:=hk.frP ⟨i',hO⟩ fr
  refine⟨own',f3,Or.inr ⟨L,M',q',d',hs,rfl,⟨hU'.sl,fun k hk2 e=>?_⟩,p,g,mp,vL,vG,ps,h3,h2⟩⟩
  rcases h4 _ e with h5|h5
  ·have:=hnw k hk2;omega
  ·exact hU'.nf k hk2 h5
end
def RoE (T0:Tr) (vs:Value) (w:World) (own:Nat->Nat) (b n ak:Nat) (M:Mt) (S:List (List Nat)) (R:List Int) (N:List Gd) (X:Nat->Prop) (l:List Nat) (m:Nat) (e:Ending) (w':World):Prop :=
 ∃own',Fr w w' (fun k=>own k≠0) (fun k=>own' k≠0)/\((∃E:Nat,E≠0/\rowD l (List.range m) [] S M=.error E/\e=.returned (.tuple #[.slice none 0 0,.int .i64 (E:Int)]))\/∃acc S1 M1,rowD l (List.range m) [] S M=.ok (acc,S1,M1)/\acc.length=m/\e=.returned (.tuple #[.slice (some ⟨w.heap.size,0,none⟩) m m,.int .i64 0])/\DkO T0 vs w' own' b n ak M1 S1 R N/\IwR w' w.heap.size acc/\own' w.heap.size=0/\StD S1 M1/\PrM X M1)
structure RoF (T0:Tr) (vs:Value) (w:World) (own:Nat->Nat) (b n ak:Nat) (M:Mt) (S:List (List Nat)) (R:List Int) (N:List Gd) (X:Nat->Prop) (a:Option Addr) (la c:Nat) (l:List Nat) (m x:Nat) (wr:World) (own':Nat->Nat) (S':List (List Nat)) (M':Mt) (acc:List Nat):Prop where
 fr:Fr w wr (fun k=>own k≠0) (fun k=>own' k≠0)
 o:DkO T0 vs wr own' b n ak M' S' R N
 row:IwR wr w.heap.size (acc++List.replicate (m-x) 0)
 ng:own' w.heap.size=0
 al:acc.length=x
 us:US wr (fun k=>own' k≠0) a la c l
 j:RowE X l acc S' M'
 rr:rowD l (List.range m) [] S M=rowD l (List.range' x (m-x)) acc S' M'
theorem q6M{x m:Nat}(h:x<m):List.range' x (m-x)=x::List.range' (x+1) (m-(x+1)):=by
 rw[show m-x=(m-(x+1))+1 by omega,List.range'_succ]
theorem Fr.newD{w w':World}{G G':Nat->Prop}(f1:Fr w w' G G'){g:Nat}(hg:w.heap.size<=g)(i:Nat)(v:Value):Fr w (w'.setCell ⟨g,i,none⟩ v) G G' :=
 ⟨f1.os,f1.tape,f1.output,by have:=f1.size;simp;exact this,fun z hz hn=>(Below.heap_setCell _ _ _ _ fun e=>by have e2:z=g:=e;omega).trans (f1.keep z hz hn),f1.foot⟩
section
variable {T0:Tr} {vs:Value} {w wr w':World} {own own' own2:Nat->Nat} {b n ak:Nat} {M M' M2:Mt} {S S' S2:List (List Nat)} {R:List Int} {N:List Gd} {X:Nat->Prop} {a:Option Addr} {la c:Nat} {l:List Nat} {m x:Nat} {acc:List Nat}
theorem RoF.put(h:RoF T0 vs w own b n ak M S R N X a la c l m x wr own' S' M' acc)(h64:w.heap.size≠tabG)(h10:w.heap.size≠ptG)(hx:x<m)(fr:Fr wr w' (fun k=>own' k≠0) (fun k=>own2 k≠0))(hO:DkO T0 vs w' own2 b n ak M2 S2 R N)(r:Nat)(hj:RowE X l (acc++[r]) S2 M2)(hrr:rowD l (x::List.range' (x+1) (m-(x+1))) acc S' M'=rowD l (List.range' (x+1) (m-(x+1))) (acc++[r]) S2 M2):
  (∃v,w'.cell? ⟨w.heap.size,x,none⟩=some v)/\w'.frozen? ⟨w.heap.size,x,none⟩=false/\RoF T0 vs w own b n ak M S R N X a la c l m (x+1) (w'.setCell ⟨w.heap.size,x,none⟩ (.int .i64 (r:Int))) own2 S2 M2 (acc++[r]):=by
 have hgl:=h.row.lt;have hng0:¬(own' w.heap.size≠0):=not_not_intro h.ng;have hrow:IwR w' w.heap.size (acc++List.replicate (m-x) 0):=(fr.keep _ hgl hng0).trans h.row;have hng:own2 w.heap.size=0:=Decidable.not_not.1 (fr.out hng0 hgl);refine⟨⟨_,hrow.cell (i:=x) (z:=0) ?_⟩,hrow.fz x,?_,hO.offI hrow hng h64 h10 x _,?_,hng,by simp[h.al],(h.us.fr fr).offI hrow x _,hj,by rw[h.rr,q6M hx];exact hrr⟩
 ·rw[List.getElem?_append_right (by rw[h.al];exact nlr),h.al,Nat.sub_self,List.getElem?_replicate,if_pos (by omega)]
 ·exact(h.fr.trans fr).newD nlr _ _
 ·have:=hrow.set x r
  have e2:(acc++List.replicate (m-x) 0).set x r=acc++[r]++List.replicate (m-(x+1)) 0:=by
   rw[List.set_append_right _ _ (by rw[h.al];exact nlr),h.al,Nat.sub_self,show m-x=(m-(x+1))+1 by omega,List.replicate_succ,List.set_cons_zero,List.append_assoc]
   rfl
  rw[e2]at this;exact this
end
theorem qaS{T0:Tr}{vs:Value}{w:World}{own:Nat->Nat}{b n ak:Nat}{M:Mt}{S:List (List Nat)}{R:List Int}{N:List Gd}{X:Nat->Prop}(h:DkO T0 vs w own b n ak M S R N)(hk:StD S M)(hp:PrM X M)(hlk:∀x,Like X (x &&& ak) x)(ha:ak<256)(hn:n<=8)(a:Option Addr)(la c:Nat)(l:List Nat)(hU:US w (fun k=>own k≠0) a la c l)(hla:la<=1024)(hbd:BdL l M.length):
  Calls Tryz.prog 70 #[.pointer (some ⟨b,0,none⟩),.slice a la c] w (RoE T0 vs w own b n ak M S R N X l (2 ^ n)):=by
 obtain⟨Q,hQ⟩:∃Q:Ending->World->Prop,Q=RoE T0 vs w own b n ak M S R N X l (2 ^ n):=⟨_,rfl⟩
 have HQ:Hid (∀e w',RoE T0 vs w own b n ak M S R N X l (2 ^ n) e w'->Q e w'):=fun e w' h=>by rw[hQ];exact h
 rw[<-hQ];have hm2:2 ^ n<=256:=Nat.pow_le_pow_right (n:=2) (by decide) hn
 have HW:Hid (wrap64 ((2:Int) ^ n)=((2 ^ n:Nat):Int)):=by
  show _=_
  rw[show ((2:Int) ^ n)=((2 ^ n:Nat):Int) by simp]
  generalize 2 ^ n=y at hm2 ⊢
  unfold wrap64
  omega
 have hmin:min n 64=n:=by omega
 have hmk:=qdn (2 ^ n) (by omega) w
 have hz:w.cell? ⟨b,0,none⟩=some (.int .i64 (n:Int))/\w.heap.size≠tabG/\w.heap.size≠ptG:=by
  obtain⟨p,g,mp,vL,vG,ps,hr,_⟩:=h;exact⟨hr.cn,by have:=hr.glt;omega,by have:=hr.t10.lt;omega⟩
 have hc1:=hz.1;have HZ:Hid _:=hz.2;have hb1:=qc w (.cells (Array.replicate (2 ^ n) (Value.int .i64 0)) 3);have HI0:Hid (RoF T0 vs w own b n ak M S R N X a la c l (2 ^ n) 0 (w.alloc (.cells (Array.replicate (2 ^ n) (Value.int .i64 0)) 3)) own S M []):=⟨Fr.ofBelow hb1,h.up hb1,by simpa using IwR.made w (2 ^ n),Decidable.not_not.1 (fun e=>Nat.lt_irrefl _ (h.lt _ e)),rfl,hU.up hb1,RowE.start hk hp hbd,by rw[List.range_eq_range'];rfl⟩
 have HLK:Hid _:=hlk;have HLA:Hid _:=hla;clear h hk hp hlk hQ hb1 hU hbd hz hla;generalize hM:(2 ^ n:Nat)=m at *;generalize hZ:Array.replicate m (Value.int .i64 0)=Z at *;clear hM hZ;go_enter Tryz.func70,Tryz.ntmps70
 go_wp2;rw[HW.out,hmk];go_wp2
 go_loopw [19] (fun j wr=>∃(x:Nat) (own':Nat->Nat) (S':List (List Nat)) (M':Mt) (acc:List Nat),x<=m/\j=.int .i64 (x:Int)/\Hid (RoF T0 vs w own b n ak M S R N X a la c l m x wr own' S' M' acc)) (fun j _=>m-(intOf j).toNat)
 case atStart=>exact⟨0,own,S,M,[],Nat.zero_le _,rfl,HI0⟩
 case round=>
  clear HI0 hmk hc1 hmin HW;obtain⟨x,own',S',M',acc,hx,rfl,HI⟩:=hrel;by_cases hlt:x<m
  ·have hx8:x<256:=by omega
   have hand:=qdE x ak (by omega) (by omega)
   have hlea:x &&& ak<=x:=Nat.and_le_left;have hcv:IntKind.u8.wrap (x:Int)=(x:Int):=by rw[IntKind.wrap_u8];omega
   obtain⟨p,cp,ca,js⟩:=HI.out.o.step HI.out.us HLA.out HI.out.j.bd hx8;have hixx:=fun w'=>q7O w.heap.size m x hlt w'
   have hra:=q6M hlt;by_cases hal:x &&& ak=x
   ·have hne:(((x &&& ak:Nat):Int) != (x:Int))=false:=by rw[hal];simp
    have HN:Hid (∀(e:Ending) (w':World),(∃own2,Fr wr w' (fun k=>own' k≠0) (fun k=>own2 k≠0)/\((stepM fuelN x l [] M'=none/\e=.returned (.tuple #[.slice none 0 0,.int .i64 9]))\/∃L M2 q' d',stepM fuelN x l [] M'=some (L,M2)/\e=.returned (.tuple #[.slice q' L.length d',.int .i64 0])/\US w' (fun k=>own2 k≠0) q' L.length d' L/\DkO T0 vs w' own2 b n ak M2 S' R N)) ->
      (e=.returned (.tuple #[.slice none 0 0,.int .i64 9])/\Q (.returned (.tuple #[.slice none 0 0,.int .i64 9])) w')\/∃q' L' d',e=.returned (.tuple #[.slice q' L' d',.int .i64 0])/\Calls Tryz.prog 68 #[.pointer (some ⟨b,0,none⟩),.slice q' L' d'] w' fun e2 w2=>∃v,w2.cell? ⟨w.heap.size,x,none⟩=some v/\w2.frozen? ⟨w.heap.size,x,none⟩=false /\
       ((e2=.returned (.tuple #[.int .i64 0,.int .i64 10])/\Q (.returned (.tuple #[.slice none 0 0,.int .i64 10])) (w2.setCell ⟨w.heap.size,x,none⟩ (.int .i64 0)))\/∃r:Nat,e2=.returned (.tuple #[.int .i64 (r:Int),.int .i64 0])/\∃own3 S3 M3 acc3,RoF T0 vs w own b n ak M S R N X a la c l m (x+1) (w2.setCell ⟨w.heap.size,x,none⟩ (.int .i64 (r:Int))) own3 S3 M3 acc3)):=fun e w' hq=>by
     obtain⟨own2,fr,⟨h1,he⟩|⟨L,M2,q',d',h1,he,hU,hO⟩⟩:=hq
     ·refine Or.inl ⟨he,HQ.out _ _ ⟨own2,HI.out.fr.trans fr,Or.inl ⟨9,by decide,?_,rfl⟩⟩⟩
      rw[HI.out.rr,hra];unfold rowD;simp only[h1]
     ·refine Or.inr ⟨q',L.length,d',he,?_⟩
      obtain⟨e1,_⟩:=q4P HI.out.j.st.good HI.out.j.bd h1;have hsm:Sm L:=qT e1.bd e1.good.few;have hln:=q5f fuelN x l [] (by simp) h1
      refine (q43 hO q' L.length d' L hU hsm hln).mono ?_
      rintro e2 w2 ⟨own3,f3,h5⟩
      have hgl:=HI.out.row.lt;have hrow:IwR w2 w.heap.size (acc++List.replicate (m-x) 0):=((fr.trans f3).keep _ hgl (not_not_intro HI.out.ng)).trans HI.out.row;have hcell:=hrow.cell (i:=x) (z:=0) (by rw[List.getElem?_append_right (by rw[HI.out.al];exact nlr),HI.out.al,Nat.sub_self,List.getElem?_replicate,if_pos (by omega)])
      refine⟨_,hcell,hrow.fz x,?_⟩
      rcases h5 with⟨h6,rfl,-⟩|⟨r,S3,h6,rfl,hO3⟩
      ·refine Or.inl ⟨rfl,HQ.out _ _ ⟨own3,((HI.out.fr.trans fr).trans f3).newD nlr _ _,Or.inl ⟨10,by decide,?_,rfl⟩⟩⟩
       rw[HI.out.rr,hra];unfold rowD;simp only[h1,h6]
      ·have hma:=HI.out.al
       have hjs:=HI.out.j.step (L:=L) (r:=r) (S1:=S3) (M1:=M2) (by rw[hma];exact h1) h6
       obtain⟨_,_,h9⟩:=HI.out.put HZ.out.1 HZ.out.2 hlt (fr.trans f3) hO3 r hjs (by
        conv=>lhs;unfold rowD
        simp only[h1,h6])
       exact Or.inr ⟨_,rfl,own3,S3,M2,_,h9⟩
    clear HI hra hal HLK hlea HZ HLA
    go_wp2_with fail
    refine js.mono ?_
    intro e w3 hq;rcases HN.out e w3 hq with⟨rfl,hr⟩|⟨q3,L3,d3,rfl,jt⟩
    ·have HR:Hid _:=hr
     clear js hq hr HN;go_wp2;exact HR.out
    ·clear js hq HN cp ca hand hne
     go_wp2_with fail
     refine jt.mono ?_
     rintro e w4 ⟨v4,cv,zv,⟨rfl,hr⟩|⟨r4,rfl,own4,S4,M4,acc4,hI4⟩⟩
     ·have HR:Hid _:=hr
      clear jt hr;go_wp2;exact HR.out
     ·have HI4:Hid _:=hI4
      clear jt hI4;go_wp2
      go_roundw
      case rel=>exact⟨x+1,own4,S4,M4,acc4,by omega,by go_num,HI4⟩
      case measure=>simp[intOf]<;>omega
   ·have hne:(((x &&& ak:Nat):Int) != (x:Int))=true:=by simp;omega
    have hal2:x &&& ak<acc.length:=by rw[HI.out.al];omega
    obtain⟨r0,hr0⟩:∃r0,acc[x &&& ak]? =some r0:=⟨_,lge hal2⟩
    have hga:(acc++List.replicate (m-x) 0)[x &&& ak]? =some r0:=by rw[List.getElem?_append_left hal2];exact hr0
    have hcr:=HI.out.row.cell hga;have hixa:=fun w'=>q7O w.heap.size m (x &&& ak) (by omega) w'
    have hma:=HI.out.al;have hjj:=HI.out.j.alike (y:=x &&& ak) (r:=r0) (by rw[hma];exact HLK.out x) hr0 (List.range' (x+1) (m-(x+1)))
    rw[hma]at hjj;obtain⟨⟨v,h1⟩,h2,h3⟩:=HI.out.put HZ.out.1 HZ.out.2 hlt (Fr.ofBelow (Below.refl _ _)) HI.out.o r0 hjj.2 hjj.1;have HI2:Hid _:=h3;clear js hga hal2 HI hra hal hr0 HLK hlea hjj h3 hma HZ HLA cp;generalize x &&& ak=y at *;go_wp2
    go_roundw
    case rel=>exact⟨x+1,own',S',M',_,by omega,by go_num,HI2⟩
    case measure=>simp[intOf]<;>omega
  ·obtain rfl:x=m:=by omega
   have HR:Hid (Q (.returned (.tuple #[.slice (some ⟨w.heap.size,0,none⟩) x x,.int .i64 0])) wr):=HQ.out _ _ ⟨own',HI.out.fr,Or.inr ⟨acc,S',M',by rw[HI.out.rr,Nat.sub_self];rfl,HI.out.al,rfl,HI.out.o,by
    have:=HI.out.row
    rw[Nat.sub_self]at this;simpa using this,HI.out.ng,HI.out.j.st,HI.out.j.pr⟩⟩
   clear HI;go_wp2;exact HR.out
theorem IwR.zsl{w:World}{g:Nat}{zs:List Nat}(h:IwR w g zs)(hm:zs.length<=1024):ZSl w (some ⟨g,0,none⟩) zs.length zs.length (zs.map Int.ofNat):=by
 refine⟨by simp,Nat.le_refl _,by unfold maxLen;omega,fun m k w hk hm=>q1a Tryz.underlying29 q3v (by simp) k w hk,fun k hk=>?_,fun k hk=>?_,by simp⟩
 ·simp only[adOf,qg,Nat.zero_add]
  have e:zs[k]? =some zs[k]:=lge hk
  rw[h.cell e];simp[List.getD_eq_getElem?_getD,hk]
 ·simp only[adOf,qg]
  exact h.lt
theorem q2K(g n c i:Nat)(hi:i<n)(w:World):(Instr.indexAt 41 (.slice (some ⟨g,0,none⟩) n c) (.int .i64 (i:Int))).run Tryz.prog w=.ok (.pointer (some ⟨g,i,none⟩)) w:=by
 simp[Instr.indexAt,run_underlying Tryz.underlying41,asIntOf,q1c (show (Tryz.prog.info? 46).map (·.size)=some 1 by kernel_rfl),hi,Result.andThen,go_sem,qg]
theorem qdM(l:List Nat):(l.map Int.ofNat).map Int.toNat=l:=by
 rw[List.map_map]
 conv=>rhs;rw[<-List.map_id l]
 exact List.map_congr_left fun x _=>rfl
def GoE (T0:Tr) (vs:Value) (w:World) (own:Nat->Nat) (b n ak:Nat) (M0:Mt) (S0:List (List Nat)) (e:Ending) (w':World):Prop :=
 ∃own',Fr w w' (fun k=>own k≠0) (fun k=>own' k≠0)/\((∃E:Nat,E≠0/\allD n 256 [] [] S0 M0=.error E/\e=.returned (.int .i64 (E:Int)))\/∃R N S M,allD n 256 [] [] S0 M0=.ok (R,N,S,M)/\e=.returned (.int .i64 0)/\DkO T0 vs w' own' b n ak M S R N)
structure GoI (T0:Tr) (vs:Value) (w:World) (own:Nat->Nat) (b n ak:Nat) (M0:Mt) (S0:List (List Nat)) (X:Nat->Prop) (s:Nat) (wr:World) (own':Nat->Nat) (S:List (List Nat)) (M:Mt) (R:List Int) (N:List Gd):Prop where
 fr:Fr w wr (fun k=>own k≠0) (fun k=>own' k≠0)
 o:DkO T0 vs wr own' b n ak M S R N
 al:∃K,AllD n K R N S M
 pr:PrM X M
 sl:R.length=s
 tot:allD n 256 [] [] S0 M0=allD n (256-s) R N S M
def AdQ (T0:Tr) (vs:Value) (w:World) (own:Nat->Nat) (b n ak:Nat) (M0:Mt) (S0:List (List Nat)) (X:Nat->Prop) (s:Nat) (Q:Ending->World->Prop) (e:Ending) (w2:World):Prop :=
 (e=.returned (.tuple #[.int .i64 0,.int .i64 11])/\Q (.returned (.int .i64 11)) w2)\/∃(r:Int) (aG:Option Addr) (J kG:Nat) (xs:List Value),e=.returned (.tuple #[.int .i64 r,.int .i64 0])/\w2.cell? ⟨b,6,none⟩=some (.slice aG J kG)/\J<=1000/\(w2.alloc (.cells #[.int .i64 r] 3)).ownsRow 0 3 1 (.slice aG J kG) J xs/\(w2.alloc (.cells #[.int .i64 r] 3)).cell? ⟨w2.heap.size,0,none⟩=some (.int .i64 r) /\
  Hid (∀w5 v',(w2.alloc (.cells #[.int .i64 r] 3)).grownBy w5 (Value.slice aG J kG).ownBlock->w5.ownsRow 0 3 1 v' (J+1) (xs++[.int .i64 r])->(v'.ownBlock=(Value.slice aG J kG).ownBlock\/v'.ownBlock=some (w2.alloc (.cells #[.int .i64 r] 3)).heap.size)->w5.cell? ⟨b,6,none⟩=some (.slice aG J kG)/\w5.frozen? ⟨b,6,none⟩=false/\∃own' S M R N,GoI T0 vs w own b n ak M0 S0 X (s+1) (w5.setCell ⟨b,6,none⟩ v') own' S M R N)
section
variable {T0:Tr} {vs:Value} {w wr w1:World} {own own' own1:Nat->Nat} {b n ak:Nat} {M0 M M1:Mt} {S0 S S1:List (List Nat)} {X:Nat->Prop} {s:Nat} {R:List Int} {N:List Gd} {acc:List Nat} {z m:Nat}
theorem GoI.add(h:GoI T0 vs w own b n ak M0 S0 X s wr own' S M R N)(hn:n<=8)(hs:s<S.length)(f1:Fr wr w1 (fun k=>own' k≠0) (fun k=>own1 k≠0))(hr:rowD (atD S R.length) (List.range (2 ^ n)) [] S M=.ok (acc,S1,M1))(hm:acc.length=2 ^ n)(hO:DkO T0 vs w1 own1 b n ak M1 S1 R N)(hrow:IwR w1 z acc)(hz:own1 z=0)(hp:PrM X M1){Q:Ending->World->Prop}(HQ:∀e w',GoE T0 vs w own b n ak M0 S0 e w'->Q e w'):
  ∃g,w1.cell? ⟨b,3,none⟩=some (.pointer (some ⟨g,0,none⟩))/\Calls Tryz.prog 71 #[.pointer (some ⟨g,0,none⟩),.slice (some ⟨z,0,none⟩) acc.length acc.length] w1 (AdQ T0 vs w own b n ak M0 S0 X s Q):=by
 obtain⟨K,hA⟩:=h.al;have h256:2 ^ n<=256:=Nat.pow_le_pow_right (n:=2) (by decide) hn
 have hlt:R.length<S.length:=by rw[h.sl];exact hs
 have hrd:=qa4 hA.ok (hA.ok.bd _ (q6g hlt)) hr;have hS1:S1.length<=256:=hrd.ok.few;obtain⟨p,g,mp,vL,vG,ps,hk,h2⟩:=hO;refine⟨g,hk.cs,?_⟩
 have hv:∀v∈acc.map Int.ofNat,0<=v/\v<=1048575:=fun v hv=>by
  obtain⟨u,hu,rfl⟩:=List.mem_map.1 hv;obtain⟨rs,ha,hl,_,hx⟩:=hrd.ex;rw[List.nil_append]at ha;subst ha;obtain⟨i,hi⟩:=List.mem_iff_getElem?.1 hu;have hil:=(List.getElem?_eq_some_iff.1 hi).1
  obtain⟨q1,hq1,hq2,_⟩:=hx i i (List.getElem?_range (by omega))
  rw[hi]at hq1;injection hq1 with hq1;have:u<S1.length:=by omega
  constructor
  ·exact Int.natCast_nonneg _
  ·show (u:Int)<=1048575
   omega
 have hN:N.length<=4096:=hA.fn;have hRl:R.length<=256:=Nat.le_trans hA.le hA.ok.few
 refine (qbn g n hn (acc.map Int.ofNat) (some ⟨z,0,none⟩) acc.length acc.length N (fun k=>own1 k=2) w1 (hrow.zsl (by omega)) (fun j hj e=>by
  simp only[adOf,qg]at e
  rw[hz]at e;cases e) hk.st hN).mono ?_
 rintro e w2 ⟨he,F2,hS2,f2⟩
 rw[addG,if_neg (by rw[List.length_map,hm];intro hc;rcases hc with hc|hc;exact hc rfl;exact hc hv),qdM]at he hS2
 obtain⟨own2,k2,fr2⟩:=hk.frS hS2 f2;have hf1:256-s=(256-(s+1))+1:=by have:=h.sl;have:=hA.ok.few;omega
 have htot:=h.tot;rw[hf1]at htot;unfold allD at htot;rw[if_pos hlt,hr]at htot;dsimp only at htot
 by_cases h4:4096<(adM n 0 (fnL acc) N).2.length
 ·rw[if_pos h4]at he htot
  exact Or.inl ⟨he,HQ _ _ ⟨own2,(h.fr.trans f1).trans fr2,Or.inl ⟨11,by decide,htot,rfl⟩⟩⟩
 ·rw[if_neg h4]at he htot
  rw[if_neg h4]at k2;dsimp only at k2 he
  obtain⟨aG,kG,rfl⟩:=q2b k2.rg;refine Or.inr ⟨_,aG,R.length,kG,_,he,k2.cg,by omega,World.ownsRow.alloc k2.rg _,qb (mha w2 _).1 0,fun w5 v' hg ho hl=>?_⟩
  obtain⟨own5,k5,f5⟩:=k2.growG (R':=R++[(adM n 0 (fnL acc) N).1]) (qc w2 _) hg (by rw[List.length_append,List.map_append];exact ho) hl
  obtain⟨k6,f6⟩:=k5.set3 (cL':=vL) (cG':=v') (j:=6) (v:=v') rfl;obtain⟨a1,_,_⟩:=hA.next hn hlt hr (by omega)
  exact⟨k5.cg,k5.fz 6,own5,S1,M1,_,_,⟨(((h.fr.trans f1).trans fr2).trans f5).trans f6,⟨p,g,mp,vL,v',ps,k6,h2⟩,⟨_,a1⟩,hp,by simp[h.sl],htot⟩⟩
end
theorem qbE{T0:Tr}{vs:Value}{w:World}{own:Nat->Nat}{b n ak:Nat}{M0:Mt}{S0:List (List Nat)}{X:Nat->Prop}(h:DkO T0 vs w own b n ak M0 S0 [] [])(hal:AllD n [] [] [] S0 M0)(hp:PrM X M0)(hlk:∀x,Like X (x &&& ak) x)(ha:ak<256)(hn:n<=8):
  Calls Tryz.prog 50 #[.pointer (some ⟨b,0,none⟩)] w (GoE T0 vs w own b n ak M0 S0):=by
 obtain⟨Q,hQ⟩:∃Q:Ending->World->Prop,Q=GoE T0 vs w own b n ak M0 S0:=⟨_,rfl⟩
 have HQ:Hid (∀e w',GoE T0 vs w own b n ak M0 S0 e w'->Q e w'):=fun e w' h=>by rw[hQ];exact h
 rw[<-hQ];have HI0:Hid (GoI T0 vs w own b n ak M0 S0 X 0 w own S0 M0 [] []):=⟨Fr.ofBelow (Below.refl _ _),h,⟨[],hal⟩,hp,rfl,rfl⟩;have HLK:Hid _:=hlk;have HC:Hid (ak<256/\n<=8):=⟨ha,hn⟩;clear h hal hp hlk hQ ha hn;go_enter Tryz.func50,Tryz.ntmps50
 go_wp2
 go_loopw [3] (fun j wr=>∃(s:Nat) (own':Nat->Nat) (S:List (List Nat)) (M:Mt) (R:List Int) (N:List Gd),s<=256/\j=.int .i64 (s:Int)/\Hid (GoI T0 vs w own b n ak M0 S0 X s wr own' S M R N)) (fun j _=>256-(intOf j).toNat)
 case atStart=>exact⟨0,own,S0,M0,[],[],by omega,rfl,HI0⟩
 case round=>
  clear HI0;obtain⟨s,own',S,M,R,N,hs2,rfl,HI⟩:=hrel;obtain⟨p,g,mp,vL,vG,ps,hk,hps,hfew⟩:=HI.out.o;have hpl:ps.length=S.length:=by rw[<-hps];simp
  by_cases hlt:s<S.length
  ·have hsp:s<ps.length:=by omega
   obtain⟨gL,kL,rfl,_,hnc,hc,_,_⟩:=q3c hk.rl hsp (.bool true);have cl:=hk.cl;rw[List.getElem?_map,lge hsp]at hc;have hidx:=fun w'=>q2K gL ps.length kL s hsp w'
   have hus:=hk.ls ps[s] (List.getElem_mem hsp)
   have hts:ps[s].ts=atD S R.length:=by
    rw[HI.out.sl];unfold atD;rw[<-hps,List.getD_eq_getElem?_getD,List.getElem?_map,lge hsp]
    rfl
   obtain⟨K,hA⟩:=HI.out.al;have hlR:R.length<S.length:=by rw[HI.out.sl];exact hlt
   have hmem:=q6g hlR
   have hll:ps[s].len<=1024:=by
    have:=hus.sl.len
    have:=hA.ok.short _ hmem
    rw[<-hts]at this
    omega
   have jr:=qaS HI.out.o hA.ok HI.out.pr HLK.out HC.out.1 HC.out.2 ps[s].a ps[s].len ps[s].cap ps[s].ts hus hll (by rw[hts];exact hA.ok.bd _ hmem)
   have HN:Hid (∀e w1,RoE T0 vs wr own' b n ak M S R N X ps[s].ts (2 ^ n) e w1->(∃E:Nat,((E:Int) != 0)=true/\e=.returned (.tuple #[.slice none 0 0,.int .i64 (E:Int)])/\Q (.returned (.int .i64 (E:Int))) w1)\/∃z m g,e=.returned (.tuple #[.slice (some ⟨z,0,none⟩) m m,.int .i64 0])/\w1.cell? ⟨b,3,none⟩=some (.pointer (some ⟨g,0,none⟩))/\Calls Tryz.prog 71 #[.pointer (some ⟨g,0,none⟩),.slice (some ⟨z,0,none⟩) m m] w1 (AdQ T0 vs w own b n ak M0 S0 X s Q)):=fun e w1 hq=>by
    obtain⟨own1,f1,⟨E,hE,h1,he⟩|⟨acc,S1,M1,h1,hal,he,hO,hrow,hz,_,hp1⟩⟩:=hq
    ·refine Or.inl ⟨E,by simp;omega,he,HQ.out _ _ ⟨own1,HI.out.fr.trans f1,Or.inl ⟨E,hE,?_,rfl⟩⟩⟩
     have hf1:256-s=(256-(s+1))+1:=by omega
     rw[HI.out.tot,hf1];unfold allD;rw[if_pos hlR,<-hts,h1]
    ·rw[hts]at h1
     obtain⟨g,hg,hC⟩:=HI.out.add HC.out.2 hlt f1 h1 hal hO hrow hz hp1 HQ.out;rw[<-hal]at he;exact Or.inr ⟨_,acc.length,g,he,hg,hC⟩
   clear hk hps hus hts hA hmem hll HI HLK HC hlR;generalize ps[s]=r at *;obtain⟨ra,rl,rc,rt⟩:=r;simp only[Option.map_some,pcD]at hc
   dsimp only at jr HN
   generalize ps.length=Kn at *;generalize S.length=Sn at *;subst hpl;clear HQ
   go_wp2_with fail
   refine jr.mono ?_
   intro e w1 hq;rcases HN.out e w1 hq with⟨E,hE,rfl,hR⟩|⟨z1,m1,g1,rfl,cs,jA⟩
   ·have HR:Hid _:=hR
    clear jr hq HN hR cl hc hidx;go_wp2;exact HR.out
   ·clear jr hq HN cl hc hidx
    go_wp2_with fail
    refine jA.mono ?_
    rintro e w2 (⟨rfl,hR⟩|⟨r2,aG,J,kG,xs,rfl,cg,hJ,hO2,hC2,HF⟩)
    ·have HR:Hid _:=hR
     clear jA hR cs;go_wp2;exact HR.out
    ·clear jA cs
     go_wp2_with (at_builtin;refine q2z Tryz.underlying29 q5m rfl (by decide) rfl _ _ rfl 0 _ J xs (.int .i64 r2) w2.heap.size rfl rfl hO2 hC2 rfl (by omega) (Nat.zero_le _) ?_)
     intro v5 w5 hown5 hgr5 hloc5;obtain⟨a5,k5,rfl⟩:=q2b hown5;obtain⟨c5,z5,own5,S5,M5,R5,N5,hI5⟩:=HF.out w5 _ hgr5 hown5 (by simpa using hloc5)
     have HI5:Hid _:=hI5;clear hown5 hgr5 hloc5 HF hI5 hO2 hC2 cg;go_wp2
     go_roundw
     case rel=>exact⟨s+1,own5,S5,M5,R5,N5,by omega,by go_num,HI5⟩
     case measure=>simp[intOf]<;>omega
  ·obtain⟨aL,kL,rfl⟩:=q2b hk.rl
   have cl:=hk.cl;have HR:Hid (Q (.returned (.int .i64 0)) wr):=HQ.out _ _ ⟨own',HI.out.fr,Or.inr ⟨R,N,S,M,?_,rfl,HI.out.o⟩⟩
   ·clear hk hps HI HQ
    generalize ps.length=Kn at *;generalize S.length=Sn at *;subst hpl;go_wp2;exact HR.out
   ·rw[HI.out.tot]
    have:¬R.length<S.length:=by rw[HI.out.sl];exact hlt
    cases h0:256-s with
    |zero=>rfl
    |succ f=>unfold allD;rw[if_neg this]
theorem qi6{T:Tr}{vs:Value}{w2:World}{F F2:Nat->Prop}{p g n ak:Nat}{M:Mt}{items:List It}(hp:PgO T w2 F p vs items M)(hst:StG w2 F2 g n [])(hd:∀k,F k->¬F2 k)(t64:Tab64 w2)(t10:Tab10 w2)(h1:¬F tabG)(h2:¬F2 tabG)(h3:¬F ptG)(h4:¬F2 ptG):
  ∃own,MkD T vs ((w2.alloc (.map #[] 0)).alloc (.cells (mkdA n ak p g (.slice none 0 0) w2.heap.size (.slice none 0 0)) 78)) own (w2.heap.size+1) p g n ak w2.heap.size M (.slice none 0 0) (.slice none 0 0) (.slice none 0 0) (.slice none 0 0) [] [] [] 0 (posT [])/\∀k,own k≠0->F k\/F2 k\/w2.heap.size<=k:=by
 classical
 have hsz:(w2.alloc (.map #[] 0)).heap.size=w2.heap.size+1:=by simp
 have hb1:=qc w2 (.map #[] 0);have hb2:=qc (w2.alloc (.map #[] 0)) (.cells (mkdA n ak p g (.slice none 0 0) w2.heap.size (.slice none 0 0)) 78);have hb:=qd hb1 hb2;have g1:tabG<w2.heap.size:=World.block_lt_of_cell? _ _ (t64 0 (by decide))
 have g2:=t10.lt;generalize hw:(w2.alloc (.map #[] 0)).alloc (.cells (mkdA n ak p g (.slice none 0 0) w2.heap.size (.slice none 0 0)) 78)=w3 at *;have hw3:w3.heap.size=w2.heap.size+2:=by rw[<-hw];simp
 have hblk:w3.heap[w2.heap.size+1]? =some (.cells (mkdA n ak p g (.slice none 0 0) w2.heap.size (.slice none 0 0)) 78 (0,0)):=by
  rw[<-hw,<-hsz];exact(mha _ _).1
 have hnum:NumS w3 w2.heap.size 0 (posT []):=by
  refine NumS.far (w:=w2.alloc (.map #[] 0)) ((qau w2).alike fun x _=>rfl) ?_
  exact hb2.block _ (by rw[hsz];omega)
 have e1:(fun k=>(if F k then 1 else if F2 k then 2 else if k=w2.heap.size+1 then 3 else if k=w2.heap.size then 4 else 0)=1)=F:=by
  funext k
  apply propext
  by_cases a1:F k
  ·simp[a1]
  ·simp only[a1,if_false]
   constructor
   ·intro h;split at h<;>(try split at h)<;>(try split at h)<;>omega
   ·exact fun h=>h.elim
 have e2:(fun k=>(if F k then 1 else if F2 k then 2 else if k=w2.heap.size+1 then 3 else if k=w2.heap.size then 4 else 0)=2)=F2:=by
  funext k
  apply propext
  by_cases a1:F k
  ·simp[a1,hd k a1]
  ·by_cases a2:F2 k
   ·simp[a1,a2]
   ·simp only[a1,a2,if_false]
    constructor
    ·intro h;split at h<;>(try split at h)<;>omega
    ·exact fun h=>h.elim
 have fl:=hp.lt;have f2l:=hst.lt;refine⟨fun k=>if F k then 1 else if F2 k then 2 else if k=w2.heap.size+1 then 3 else if k=w2.heap.size then 4 else 0,⟨fun k hk=>?_,⟨items,by rw[e1];exact hp.up hb⟩,by rw[e2];exact hst.up hb,hblk,?_,hnum,?_,⟨rfl,Or.inl ⟨rfl,rfl⟩⟩,fun k hk=>(by cases hk),⟨rfl,Or.inl ⟨rfl,rfl⟩⟩,fun k hk=>(by cases hk),fun r hr=>(by cases hr),t64.up hb,t10.up hb,?_,?_⟩,fun k hk=>?_⟩
 ·by_cases a1:F k
  ·have:=fl k a1;omega
  ·by_cases a2:F2 k
   ·have:=f2l k a2;omega
   ·simp only[a1,a2,if_false]at hk
    split at hk
    ·omega
    ·split at hk<;>omega
 ·have a1:¬F (w2.heap.size+1):=fun h=>by have:=fl _ h;omega
  have a2:¬F2 (w2.heap.size+1):=fun h=>by have:=f2l _ h;omega
  simp[a1,a2]
 ·have a1:¬F w2.heap.size:=fun h=>by have:=fl _ h;omega
  have a2:¬F2 w2.heap.size:=fun h=>by have:=f2l _ h;omega
  simp[a1,a2]
 ·have a3:tabG≠w2.heap.size+1:=by omega
  have a4:tabG≠w2.heap.size:=by omega
  simp[h1,h2,a3,a4]
 ·have a3:ptG≠w2.heap.size+1:=by omega
  have a4:ptG≠w2.heap.size:=by omega
  simp[h3,h4,a3,a4]
 ·by_cases a1:F k
  ·exact Or.inl a1
  ·by_cases a2:F2 k
   ·exact Or.inr (Or.inl a2)
   ·simp only[a1,a2,if_false]at hk
    right;right
    split at hk
    ·omega
    ·split at hk<;>omega
def BeD (w:World) (ts:List Tk) (n:Int) (e:Ending) (w':World):Prop:=Below w.heap.size w w' /\
 ((∃E:Nat,E≠0/\DetX n ts (.error E)/\e=.returned (.tuple #[.pointer none,.int .i64 (E:Int)])) \/
  ∃T vs own b l0 M,KT T/\ts=T.flat/\(0<=n/\n<=8)/\chkE ts=0/\bitsL ts >>> n.toNat=0/\needM T []=some (l0,M)/\e=.returned (.tuple #[.pointer (some ⟨b,0,none⟩),.int .i64 0])/\DkO T vs w' own b n.toNat (bitsL ts) M [l0] [] []/\∀k,own k≠0->w.heap.size<=k)
theorem q7I(n:Int)(a:Option Addr)(len cap:Nat)(ts:List Tk)(w:World)(hT:TkSl w a len cap ts)(h64:Tab64 w)(h10:Tab10 w):
  Calls Tryz.prog 49 #[.int .i64 n,.slice a len cap] w (BeD w ts n):=by
 obtain⟨Q,hQ⟩:∃Q:Ending->World->Prop,Q=BeD w ts n:=⟨_,rfl⟩
 have HQ:Hid (∀e w',BeD w ts n e w'->Q e w'):=fun e w' h=>by rw[hQ];exact h
 rw[<-hQ];have jn:=qbo n w;have hmm:=@run_makeMap Tryz.prog;have HT:Hid _:=hT;have H64:Hid _:=h64;have H10:Hid _:=h10;clear hT h64 h10 hQ;go_enter Tryz.func49,Tryz.ntmps49
 go_wp2_with fail
 refine jn.mono ?_
 rintro e w1 ⟨hb1,⟨hn,rfl⟩|⟨h0,h8,g,F2,rfl,hF2,hst⟩⟩
 ·have HR:Hid (Q (.returned (.tuple #[.pointer none,.int .i64 2])) w1):=HQ.out _ _ ⟨hb1,Or.inl ⟨2,by decide,DetX.ofFar hn,rfl⟩⟩
  clear jn hb1 hn;go_wp2;exact HR.out
 ·have HB1:Hid _:=hb1
  have HST:Hid _:=hst;have HF2:Hid _:=hF2;obtain⟨k,rfl⟩:=Int.eq_ofNat_of_zero_le h0;have hk8:k<=8:=by omega
  have HN:Hid (0<=((k:Nat):Int)/\((k:Nat):Int)<=8):=⟨h0,h8⟩;have jc:=q2M a len cap ts w1 (HT.out.up hb1);clear jn hb1 hst hF2 h0 h8
  go_wp2_with fail
  refine jc.mono ?_
  rintro e w2 ⟨rfl,hb2⟩
  have HB2:Hid _:=hb2;by_cases hc:chkE ts=0
  ·have hne:((chkE ts:Int) != 0)=false:=by rw[hc];rfl
   have HC:Hid _:=hc;have hsz:len<=1000000:=by have:=(qfc hc).1;have:=HT.out.hlen;omega
   obtain⟨_,T,kT,hts⟩:=qfc hc;have h7:∀t∈ts,t.2<=7:=by rw[hts];exact qap kT
   have hb12:=qd HB1.out hb2;have jb:=q8T a len cap ts w2 (HT.out.up hb12) h7 hsz;have hsm:=q6J h7;generalize hE:chkE ts=E at hne ⊢
   clear jc hc hb2 hb12 kT hts h7 hE
   go_wp2_with fail
   refine jb.mono ?_
   rintro e w3 ⟨rfl,hb3⟩
   have HB3:Hid _:=hb3;by_cases hx:bitsL ts >>> k=0
   ·have hd:((bitsL ts:Int) / 2 ^ k != 0)=false:=by rw[q7x,hx];rfl
    have hb13:=qd (qd HB1.out HB2.out) hb3;have jp:=qbc a len cap ts w3 (HT.out.up hb13);have HX:Hid _:=hx;clear jb hb3 hb13 hx;generalize hak:bitsL ts=ak at *;have HAK:Hid _:=hak;clear hak
    go_wp2_with fail
    refine jp.mono ?_
    rintro e w4 ⟨hb4,⟨hc,_⟩|⟨T,kT,hts,hc,⟨hn,rfl⟩|⟨l0,M,p,F,q,d,items,hn,rfl,hO,hU,hF⟩⟩⟩
    ·exact absurd HC.out hc
    ·have hb14:=qd (qd (qd HB1.out HB2.out) HB3.out) hb4
     have HR:Hid (Q (.returned (.tuple #[.pointer none,.int .i64 9])) w4):=HQ.out _ _ ⟨hb14,Or.inl ⟨9,by decide,DetX.ofDet HN.out hc (by rw[HAK.out];exact HX.out) kT hts (by unfold detM;rw[hn]),rfl⟩⟩
     clear jp hb4 hb14 kT hts hn hc;go_wp2;exact HR.out
    ·have hb34:=qd HB3.out hb4
     have hb24:=qd HB2.out hb34;have hb14:=qd HB1.out hb24;have hl0:LstH l0:=⟨qT (qV T q54 kT hn).1.bd hO.few,q1U T hn⟩
     have HNX:Hid (Calls Tryz.prog 69 #[.pointer (some ⟨p,0,none⟩)] ((w4.alloc (.map #[] 0)).alloc (.cells (mkdA k ak p g (.slice none 0 0) w4.heap.size (.slice none 0 0)) 78)) fun e w6=>∃a6 c6 L6,e=.returned (.slice a6 L6 c6) /\
       Calls Tryz.prog 68 #[.pointer (some ⟨w4.heap.size+1,0,none⟩),.slice a6 L6 c6] w6 fun e w7=>∃r:Nat,e=.returned (.tuple #[.int .i64 (r:Int),.int .i64 0])/\Q (.returned (.tuple #[.pointer (some ⟨w4.heap.size+1,0,none⟩),.int .i64 0])) w7):=by
      have t64:=Tab64.up H64.out hb14;have t10:=Tab10.up H10.out hb14;have s64:tabG<w.heap.size:=World.block_lt_of_cell? _ _ (H64.out 0 (by decide))
      have s10:=Tab10.lt H10.out;have z1:=HB1.out.size;have z2:=HB2.out.size;have z3:=HB3.out.size;have hst4:=HST.out.up hb24;obtain⟨own,hM,hGe⟩:=qi6 (n:=k) (ak:=ak) (F2:=F2) (g:=g) hO hst4 (fun j h1 h2=>by have:=hF j h1;have:=HST.out.lt j h2;omega) t64 t10 (fun h=>by have:=hF _ h;omega) (fun h=>by have:=HF2.out _ h;omega) (fun h=>by have:=hF _ h;omega) (fun h=>by have:=HF2.out _ h;omega)
      have hge:∀j,own j≠0->w.heap.size<=j:=fun j hj=>by
       have z4:=hb4.size;rcases hGe j hj with h|h|h
       ·have:=hF j h;omega
       ·exact HF2.out j h
       ·omega
      have hb45:=qd (qc w4 (.map #[] 0)) (qc (w4.alloc (.map #[] 0)) (.cells (mkdA k ak p g (.slice none 0 0) w4.heap.size (.slice none 0 0)) 78));refine (q86 (hO.up hb45) (hU.up hb45) hl0.few).mono ?_
      intro e w6 hcl;obtain⟨hb6,a6,c6,rfl,hU6⟩:=qiG (F:=fun j=>own j≠0) hM.lt hcl
      refine⟨a6,c6,_,rfl,?_⟩
      have hD:DkO T (.slice q l0.length d) w6 own (w4.heap.size+1) k ak M [] [] []:=⟨p,g,w4.heap.size,_,_,[],hM.up hb6,rfl,by simp⟩
      refine (q43 hD a6 l0.length c6 l0 hU6 hl0.sm hl0.few).mono ?_
      rintro e w7 ⟨own7,f7,h7⟩
      have hput:putD l0 []=some (0,[l0]):=by unfold putD;simp
      rw[hput]at h7;rcases h7 with⟨h8,_,_⟩|⟨j,S1,h8,rfl,hO7⟩
      ·cases h8
      ·injection h8 with h8;injection h8 with h8 h9
       subst h8 h9;have hbw6:=qd (qd hb14 hb45) hb6;refine⟨0,rfl,HQ.out _ _ ⟨hbw6.trans (f7.below hge hbw6.size),Or.inr ⟨T,_,own7,_,l0,M,kT,hts,HN.out,hc,by rw[HAK.out];exact HX.out,hn,rfl,by rw[HAK.out];exact hO7,f7.ge hge hbw6.size⟩⟩⟩
     have js:=HNX.out;clear jp HNX hb4 hb34 hb24 hb14 hl0 kT hts hn hc hO hU hF HST HF2 HT H64 H10 HAK HX HC HN HB1 HB2 HB3 HQ;unfold mkdA at js;unfold pgV
     go_wp2_with fail
     refine js.mono ?_
     rintro e w6 ⟨a6,c6,L6,rfl,jt⟩
     clear js
     go_wp2_with fail
     refine jt.mono ?_
     rintro e w7 ⟨r,rfl,hR⟩
     have HR:Hid _:=hR;clear jt hR;go_wp2;exact HR.out
   ·have hd:((bitsL ts:Int) / 2 ^ k != 0)=true:=by
     rw[q7x,bne_iff_ne]
     omega
    have hb13:=qd (qd HB1.out HB2.out) hb3;have HR:Hid (Q (.returned (.tuple #[.pointer none,.int .i64 2])) w3):=HQ.out _ _ ⟨hb13,Or.inl ⟨2,by decide,DetX.ofArg HN.out HC.out hx,rfl⟩⟩
    clear jb hb3 hb13 hx HQ;generalize bitsL ts=ak at *;go_wp2;exact HR.out
  ·have hne:((chkE ts:Int) != 0)=true:=by simp;omega
   have HR:Hid (Q (.returned (.tuple #[.pointer none,.int .i64 (chkE ts:Int)])) w2):=HQ.out _ _ ⟨qd HB1.out hb2,Or.inl ⟨chkE ts,hc,DetX.ofChk HN.out hc,rfl⟩⟩;generalize chkE ts=E at *;clear jc hb2 HQ;go_wp2;exact HR.out
def CoD (w:World) (ts:List Tk) (n:Int) (e:Ending) (w':World):Prop:=Below w.heap.size w w' /\
 ((∃E:Nat,E≠0/\DetX n ts (.error E)/\e=.returned (.tuple #[.pointer none,.int .i64 (E:Int)])) \/
  ∃T vs own b R N S M,KT T/\ts=T.flat/\DetX n ts (.ok (R,N,S,M))/\DetK T n.toNat R N S M/\e=.returned (.tuple #[.pointer (some ⟨b,0,none⟩),.int .i64 0])/\DkO T vs w' own b n.toNat (bitsL ts) M S R N/\∀k,own k≠0->w.heap.size<=k)
theorem q5k(n:Int)(a:Option Addr)(len cap:Nat)(ts:List Tk)(w:World)(hT:TkSl w a len cap ts)(h64:Tab64 w)(h10:Tab10 w):
  Calls Tryz.prog 28 #[.int .i64 n,.slice a len cap] w (CoD w ts n):=by
 obtain⟨Q,hQ⟩:∃Q:Ending->World->Prop,Q=CoD w ts n:=⟨_,rfl⟩
 have HQ:Hid (∀e w',CoD w ts n e w'->Q e w'):=fun e w' h=>by rw[hQ];exact h
 rw[<-hQ];have jb:=q7I n a len cap ts w hT h64 h10;clear hQ hT h64 h10;go_enter Tryz.func28,Tryz.ntmps28
 go_wp2_with fail
 refine jb.mono ?_
 rintro e w1 ⟨hb1,⟨E,hE,hX,rfl⟩|⟨T,vs,own,b,l0,M,kT,hts,hn,hc,hx,hnd,rfl,hO,hge⟩⟩
 ·have hne:((E:Int) != 0)=true:=by simp;omega
  have HR:Hid (Q (.returned (.tuple #[.pointer none,.int .i64 (E:Int)])) w1):=HQ.out _ _ ⟨hb1,Or.inl ⟨E,hE,hX,rfl⟩⟩;clear jb hb1 hX hE HQ;go_wp2;exact HR.out
 ·have hk8:n.toNat<=8:=by omega
  have h7:∀t∈ts,t.2<=7:=by rw[hts];exact qap kT
  have jg:=qbE (X:=PrX ts) hO (qf7 kT hnd n.toNat) (q2o T (by rw[hts];exact fun p hp=>hp) (fun f hf=>(by cases hf)) hnd) (fun x=>qgJ ts x) (q6J h7) hk8
  have HN:Hid (∀e w2,GoE T vs w1 own b n.toNat (bitsL ts) M [l0] e w2->(∃E:Nat,((E:Int) != 0)=true/\e=.returned (.int .i64 (E:Int))/\Q (.returned (.tuple #[.pointer none,.int .i64 (E:Int)])) w2)\/(e=.returned (.int .i64 0)/\Q (.returned (.tuple #[.pointer (some ⟨b,0,none⟩),.int .i64 0])) w2)):=fun e w2 hq=>by
   obtain⟨own2,f2,hq⟩:=hq;have hb2:=hb1.trans (f2.below hge hb1.size);have hge2:=f2.ge hge hb1.size;rcases hq with⟨E,hE,hal,rfl⟩|⟨R,N,S,M2,hal,rfl,hO2⟩
   ·exact Or.inl ⟨E,by simp;omega,rfl,HQ.out _ _ ⟨hb2,Or.inl ⟨E,hE,DetX.ofDet hn hc hx kT hts (by unfold detM;rw[hnd];exact hal),rfl⟩⟩⟩
   ·have hd:detM T n.toNat=.ok (R,N,S,M2):=by unfold detM;rw[hnd];exact hal
    exact Or.inr ⟨rfl,HQ.out _ _ ⟨hb2,Or.inr ⟨T,vs,own2,b,R,N,S,M2,kT,hts,DetX.ofDet hn hc hx kT hts hd,qiH hk8 kT hd,rfl,hO2,hge2⟩⟩⟩
  clear jb hb1 kT hts hn hc hx hnd hO hge hk8 h7 HQ
  go_wp2_with fail
  refine jg.mono ?_
  intro e w2 hq;rcases HN.out e w2 hq with⟨E,hE,rfl,hR⟩|⟨rfl,hR⟩
  ·have HR:Hid _:=hR
   clear jg HN hq hR;go_wp2;exact HR.out
  ·have HR:Hid _:=hR
   clear jg HN hq hR;go_wp2;exact HR.out
def AZ (w:World) (g:Nat):Prop:=w.heap[g]? =some (.cells #[.int .i64 0,.slice none 0 0,.slice none 0 0,.slice none 0 0] 32 (0,0))
theorem AZ.lt{w:World}{g:Nat}(h:AZ w g):g<w.heap.size:=(aes h).1
theorem AZ.up{w w':World}{g:Nat}(h:AZ w g)(hb:Below w.heap.size w w'):AZ w' g:=(hb.block g h.lt).trans h
def four (w:World) (g:Nat) (v0 v1 v2 v3:Value):World:=(((w.setCell ⟨g,0,none⟩ v0).setCell ⟨g,1,none⟩ v1).setCell ⟨g,2,none⟩ v2).setCell ⟨g,3,none⟩ v3
theorem q53(w:World)(g:Nat)(v0 v1 v2 v3:Value){k:Nat}(h:k≠g):(four w g v0 v1 v2 v3).heap[k]? =w.heap[k]? := by
 unfold four;rw[Below.heap_setCell _ _ _ _ h,Below.heap_setCell _ _ _ _ h,Below.heap_setCell _ _ _ _ h,Below.heap_setCell _ _ _ _ h]
theorem qak(w:World)(g:Nat)(v0 v1 v2 v3:Value):(four w g v0 v1 v2 v3).heap.size=w.heap.size:=by unfold four;simp
theorem q52{B:Nat}{w w2:World}{g:Nat}(hb:Below B w w2)(hg:B<=g)(v0 v1 v2 v3:Value):Below B w (four w2 g v0 v1 v2 v3) :=
 (((hb.setCell (p:=⟨g,0,none⟩) hg v0).setCell (p:=⟨g,1,none⟩) hg v1).setCell (p:=⟨g,2,none⟩) hg v2).setCell (p:=⟨g,3,none⟩) hg v3
structure AutD (B:Nat) (w:World) (bs:List Bool) (aA aG:Option Addr) (cG:Nat) (aN:Option Addr) (cN:Nat) (R:List Int) (N:List Gd):Prop where
 bo:BoSl w aA bs.length bs.length bs
 zs:ZSl w aG R.length cG R
 nd:NdSl w aN N.length cN N
 b1:∀x,aA=some x->B<=x.block
 b2:∀k,k<R.length->B<=(adOf aG k).block
 b3:∀x,aN=some x->B<=x.block
theorem BoSl.keepD{w w':World}{a:Option Addr}{len cap:Nat}{bs:List Bool}(h:BoSl w a len cap bs)(hk:∀p v,w.cell? p=some v->(∀x,a=some x->p.block=x.block)->w'.cell? p=some v):BoSl w' a len cap bs :=
 ⟨h.hlen,h.hcap,h.bd,h.nn,fun x hx k hk2=>hk _ _ (h.c x hx k hk2) fun y hy=>by rw[q1Z];rw[hx]at hy;injection hy with hy;rw[hy]⟩
theorem AutD.far{B:Nat}{w w':World}{bs:List Bool}{aA aG:Option Addr}{cG:Nat}{aN:Option Addr}{cN:Nat}{R:List Int}{N:List Gd}(h:AutD B w bs aA aG cG aN cN R N)(hs:w.heap.size<=w'.heap.size)(hk:∀k,B<=k->k<w.heap.size->w'.heap[k]? =w.heap[k]?):AutD B w' bs aA aG cG aN cN R N:=by
 have cc:∀(p:Addr) (v:Value),w.cell? p=some v->B<=p.block->w'.cell? p=some v:=fun p v hp hb=>by
  have:=hk p.block hb (World.block_lt_of_cell? _ _ hp)
  unfold World.cell? at hp ⊢;rw[this];exact hp
 refine⟨?_,⟨h.zs.hlen,h.zs.hcap,h.zs.bd,h.zs.idx,fun k h1=>cc _ _ (h.zs.cell k h1) (h.b2 k h1),fun k h1=>Nat.lt_of_lt_of_le (h.zs.blk k h1) hs,h.zs.nn⟩,?_,h.b1,h.b2,h.b3⟩
 ·cases aA with
  |none=>exact⟨h.bo.hlen,h.bo.hcap,h.bo.bd,h.bo.nn,fun x hx=>(by cases hx)⟩
  |some y=>exact h.bo.keepD fun p v hp hx=>cc p v hp (by rw[hx y rfl];exact h.b1 y rfl)
 ·cases aN with
  |none=>exact⟨h.nd.hlen,h.nd.hcap,h.nd.bd,h.nd.nn,fun x hx=>(by cases hx),fun x hx=>(by cases hx),fun x hx=>(by cases hx),h.nd.ok⟩
  |some y=>exact h.nd.keep fun p v hp hx=>cc p v hp (by rw[hx y rfl];exact h.b3 y rfl)
theorem AutD.up{B:Nat}{w w':World}{bs:List Bool}{aA aG:Option Addr}{cG:Nat}{aN:Option Addr}{cN:Nat}{R:List Int}{N:List Gd}(h:AutD B w bs aA aG cG aN cN R N)(hb:Below w.heap.size w w'):AutD B w' bs aA aG cG aN cN R N:=h.far hb.size fun k _ h2=>hb.block k h2
def autV (n:Int) (aA:Option Addr) (nA:Nat) (aG:Option Addr) (nG cG:Nat) (aN:Option Addr) (nN cN:Nat):Value:=.agg #[.int .i64 n,.slice aA nA nA,.slice aG nG cG,.slice aN nN cN]
def AuD (n B:Nat) (S:List (List Nat)) (R:List Int) (N:List Gd) (M:Mt) (w:World) (e:Ending) (w':World):Prop:=Below w.heap.size w w' /\
 ∃bs aA aG cG aN cN,e=.returned (autV (n:Int) aA bs.length aG R.length cG aN N.length cN)/\AutD B w' bs aA aG cG aN cN R N/\bs.length=S.length/\∀(j:Nat) (c:Bool),bs[j]? =some c->(c=true↔FinP M (atD S j))
structure AcI (T:Tr) (vs:Value) (w:World) (own:Nat->Nat) (b p g n ak mp:Nat) (M:Mt) (vL vG:Value) (ps:List PcU) (S:List (List Nat)) (R:List Int) (N:List Gd) (k:Nat) (wr:World) (bs:List Bool):Prop where
 bel:Below w.heap.size w wr
 o:MkD T vs wr own b p g n ak mp M vL vG vL vG ps R N S.length (posT S)
 az:AZ wr w.heap.size
 row:BoRow wr (w.heap.size+1) (bs++List.replicate (S.length-k) false)
 bl:bs.length=k
 fi:∀(j:Nat) (c:Bool),bs[j]? =some c->(c=true↔FinP M (atD S j))
theorem BoRow.ltD{w:World}{g:Nat}{bs:List Bool}(h:BoRow w g bs):g<w.heap.size:=(aes h).1
theorem BoRow.cellD{w:World}{g:Nat}{bs:List Bool}(h:BoRow w g bs){i:Nat}{c:Bool}(hi:bs[i]? =some c):w.cell? ⟨g,i,none⟩=some (.bool c):=by
 unfold BoRow at h;rw[qb h i];simp[hi]
theorem BoRow.upD{w w':World}{g:Nat}{bs:List Bool}(h:BoRow w g bs)(hb:Below w.heap.size w w'):BoRow w' g bs:=(hb.block g h.ltD).trans h
theorem BoRow.setD{w:World}{g:Nat}{bs:List Bool}(h:BoRow w g bs)(i:Nat)(c:Bool):BoRow (w.setCell ⟨g,i,none⟩ (.bool c)) g (bs.set i c):=by
 unfold BoRow at h ⊢;rw[heap_setCell_same w g i _ _ _ h]
 congr 2
 simp
theorem USl.offB{w:World}{a:Option Addr}{n c:Nat}{l:List Nat}(h:USl w a n c l){g:Nat}{bs:List Bool}(hr:BoRow w g bs):∀k,k<n->(adOf a k).block≠g:=fun k hk e=>by
 have hc:=h.cell k hk;unfold World.cell? at hc;unfold BoRow at hr;rw[e,hr]at hc
 cases hq:bs[(adOf a k).off]? with
 |none=>simp[hq]at hc
 |some y=>simp[hq]at hc
theorem qej(g n i:Nat)(hi:i<n)(w:World):(Instr.indexAt 28 (.slice (some ⟨g,0,none⟩) n n) (.int .i64 (i:Int))).run Tryz.prog w=.ok (.pointer (some ⟨g,i,none⟩)) w:=by
 simp[Instr.indexAt,run_underlying Tryz.underlying28,asIntOf,q1c (show (Tryz.prog.info? 4).map (·.size)=some 1 by kernel_rfl),hi,Result.andThen,go_sem,qg]
section
variable {T:Tr} {vs:Value} {w wr w':World} {own:Nat->Nat} {b p g n ak mp:Nat} {M:Mt} {vL vG:Value} {ps:List PcU} {S:List (List Nat)} {R:List Int} {N:List Gd} {k:Nat} {bs:List Bool}
theorem AcI.put(h:AcI T vs w own b p g n ak mp M vL vG ps S R N k wr bs)(ho:∀j,w.heap.size<=j->own j=0)(h64:tabG<w.heap.size)(h10:ptG<w.heap.size)(hk:k<S.length)(hb:Below wr.heap.size wr w')(c:Bool)(hc:c=true↔FinP M (atD S k)):
  (∃v,w'.cell? ⟨w.heap.size+1,k,none⟩=some v)/\w'.frozen? ⟨w.heap.size+1,k,none⟩=false/\AcI T vs w own b p g n ak mp M vL vG ps S R N (k+1) (w'.setCell ⟨w.heap.size+1,k,none⟩ (.bool c)) (bs++[c]):=by
 have hrow:=h.row.upD hb;have hm:=h.o.up hb;refine⟨⟨_,hrow.cellD (i:=k) (c:=false) ?_⟩,frozen_of_row w' _ k _ _ hrow,?_,hm.off (ho _ (by omega)) (fun r hr=>(hm.ls r hr).sl.offB hrow) (by omega) (by omega) k _,?_,?_,by simp[h.bl],fun j x hx=>?_⟩
 ·rw[List.getElem?_append_right (by rw[h.bl];exact nlr),h.bl,Nat.sub_self,List.getElem?_replicate,if_pos (by omega)]
 ·exact(qd h.bel hb).setCell (p:=⟨w.heap.size+1,k,none⟩) (by show w.heap.size<=w.heap.size+1;omega) _
 ·exact(Below.heap_setCell _ _ _ _ (by show w.heap.size≠w.heap.size+1;omega)).trans (h.az.up hb)
 ·have:=hrow.setD k c
  have e2:(bs++List.replicate (S.length-k) false).set k c=bs++[c]++List.replicate (S.length-(k+1)) false:=by
   rw[List.set_append_right _ _ (by rw[h.bl];exact nlr),h.bl,Nat.sub_self,show S.length-k=(S.length-(k+1))+1 by omega,List.replicate_succ,List.set_cons_zero,List.append_assoc]
   rfl
  rw[e2]at this;exact this
 ·rcases q7i hx with hx|⟨rfl,rfl⟩
  ·exact h.fi j x hx
  ·rw[h.bl];exact hc
end
theorem q8S{T:Tr}{vs:Value}{w:World}{own:Nat->Nat}{b n ak:Nat}{M:Mt}{S:List (List Nat)}{R:List Int}{N:List Gd}(h:DkO T vs w own b n ak M S R N)(hst:StD S M)(hN:N.length<=4096){B:Nat}(hB:∀k,own k≠0->B<=k)(hBw:B<=w.heap.size):
  Calls Tryz.prog 29 #[.pointer (some ⟨b,0,none⟩)] w (AuD n B S R N M w):=by
 obtain⟨Q,hQ⟩:∃Q:Ending->World->Prop,Q=AuD n B S R N M w:=⟨_,rfl⟩
 have HQ:Hid (∀e w',AuD n B S R N M w e w'->Q e w'):=fun e w' h=>by rw[hQ];exact h
 rw[<-hQ];clear hQ;obtain⟨p,g,mp,vL,vG,ps,hk,hps,hfew⟩:=h;have hpl:ps.length=S.length:=by rw[<-hps];simp
 obtain⟨aL,kL,rfl⟩:=q2b hk.rl;have hb1:=qc w (.cells #[.int .i64 0,.slice none 0 0,.slice none 0 0,.slice none 0 0] 32);have k1:=hk.up hb1;have cl:=k1.cl;have hz1:(w.alloc (.cells #[.int .i64 0,.slice none 0 0,.slice none 0 0,.slice none 0 0] 32)).heap.size=w.heap.size+1:=by simp
 have hmk:=qdl ps.length ps.length (ps.length:Int) (ps.length:Int) rfl rfl nlr (by omega) (w.alloc (.cells #[.int .i64 0,.slice none 0 0,.slice none 0 0,.slice none 0 0] 32))
 rw[hz1]at hmk;have hb2:=qc (w.alloc (.cells #[.int .i64 0,.slice none 0 0,.slice none 0 0,.slice none 0 0] 32)) (.cells ((zB ps.length).map Value.bool).toArray 4);have cl2:=(k1.up hb2).cl
 have HI0:Hid (AcI T vs w own b p g n ak mp M (.slice aL ps.length kL) vG ps S R N 0 ((w.alloc (.cells #[.int .i64 0,.slice none 0 0,.slice none 0 0,.slice none 0 0] 32)).alloc (.cells ((zB ps.length).map Value.bool).toArray 4)) []):=by
  refine⟨qd hb1 hb2,k1.up hb2,?_,?_,rfl,fun j c hc=>by simp at hc⟩
  ·have:AZ (w.alloc (.cells #[.int .i64 0,.slice none 0 0,.slice none 0 0,.slice none 0 0] 32)) w.heap.size:=(mha w _).1
   exact this.up hb2
  ·unfold BoRow
   rw[<-hz1,(mha _ _).1,List.nil_append,Nat.sub_zero,<-hpl]
   rfl
 have HO:Hid (∀j,w.heap.size<=j->own j=0):=fun j hj=>Decidable.not_not.1 fun e=>by have:=hk.lt j e;omega
 have HG:Hid (tabG<w.heap.size/\ptG<w.heap.size):=⟨hk.glt,hk.t10.lt⟩;have HS:Hid _:=hst;have HPS:Hid _:=hps;have HNN:Hid _:=hN;have HBB:Hid ((∀k,own k≠0->B<=k)/\B<=w.heap.size):=⟨hB,hBw⟩;have HPL:Hid _:=hpl;have hK9:ps.length<=256:=by omega
 clear hk k1 hb1 hb2 hst hps hN hB hBw hz1;generalize hK:ps.length=K at *;generalize hZ:((zB K).map Value.bool).toArray=Z at *;have HK:Hid _:=hK;clear hK hZ hpl;go_enter Tryz.func29,Tryz.ntmps29
 go_wp2
 go_loopw [17] (fun j wr=>∃(k:Nat) (bs:List Bool),k<=K/\j=.int .i64 (k:Int)/\Hid (AcI T vs w own b p g n ak mp M (.slice aL K kL) vG ps S R N k wr bs)) (fun j _=>K-(intOf j).toNat)
 case atStart=>exact⟨0,[],Nat.zero_le _,rfl,HI0⟩
 case round=>
  clear HI0 cl cl2 hmk;obtain⟨k,bs,hkK,rfl,HI⟩:=hrel;by_cases hlt:k<K
  ·have hsp:k<ps.length:=by rw[HK.out];exact hlt
   have hrl:=HI.out.o.rl;rw[HK.out]at hrl;obtain⟨gL,kL2,he,_,hnc,hc,_,_⟩:=q3c hrl hlt (.bool true);injection he with he1 _ he2;subst he1 he2;rw[List.getElem?_map,lge hsp]at hc;have hidx:=fun w'=>q2K gL K kL k hlt w'
   have hixb:=fun w'=>qej (w.heap.size+1) K k hlt w'
   have hus:=HI.out.o.ls ps[k] (List.getElem_mem hsp)
   have hts:ps[k].ts=atD S k:=by
    unfold atD;rw[<-HPS.out,List.getD_eq_getElem?_getD,List.getElem?_map,lge hsp]
    rfl
   have hkS:k<S.length:=by rw[<-HPL.out];exact hlt
   have hsm:Sm ps[k].ts:=by rw[hts];exact qT (HS.out.bd _ (q6g hkS)) HS.out.good.few
   have cp:=HI.out.o.cp;obtain⟨items,hP⟩:=HI.out.o.prg
   have jf:Calls Tryz.prog 51 #[.pointer (some ⟨p,0,none⟩),.slice ps[k].a ps[k].len ps[k].cap] wr fun e w2=>∃c v,e=.returned (.bool c)/\w2.cell? ⟨w.heap.size+1,k,none⟩=some v/\w2.frozen? ⟨w.heap.size+1,k,none⟩=false/\Hid (AcI T vs w own b p g n ak mp M (.slice (some ⟨gL,0,none⟩) K kL) vG ps S R N (k+1) (w2.setCell ⟨w.heap.size+1,k,none⟩ (.bool c)) (bs++[c])):=by
    have hll:=hus.sl.len;have:=q80 hP ps[k].a ps[k].cap ps[k].ts (by rw[<-hll];exact hus.sl) hsm
    rw[<-hll]at this;refine this.mono ?_
    rintro e w2 ⟨⟨c,rfl,hc⟩,hb⟩
    rw[hts]at hc;obtain⟨⟨v,h1⟩,h2,h3⟩:=HI.out.put HO.out HG.out.1 HG.out.2 hkS hb c hc;exact⟨c,v,rfl,h1,h2,h3⟩
   clear hus hts hsm HI hP hkS hnc hrl;generalize ps[k]=r at *;obtain⟨ra,rl,rc,rt⟩:=r;simp only[Option.map_some,pcD]at hc
   dsimp only at jf
   go_wp2_with fail
   refine jf.mono ?_
   rintro e w2 ⟨c,v,rfl,cv,zv,HI2⟩
   clear jf hc cp hidx;go_wp2
   go_roundw
   case rel=>exact⟨k+1,_,by omega,by go_num,HI2⟩
   case measure=>simp[intOf]<;>omega
  ·obtain rfl:k=K:=by omega
   have hm:=HI.out.o;have c0:=hm.cn;have c6:=hm.cg;have c3:=hm.cs;obtain⟨aG,kG,rfl⟩:=q2b hm.rg;have hbd:Below wr.heap.size wr wr.drew:=(Below.refl _ _).drew;have hbs:bs.length=k:=HI.out.bl
   have jn:Calls Tryz.prog 52 #[.pointer (some ⟨g,0,none⟩)] wr.drew fun e w5=>∃aN nN cN,e=.returned (.slice aN nN cN)/\w5.cell? ⟨b,0,none⟩=some (.int .i64 (n:Int))/\w5.cell? ⟨b,6,none⟩=some (.slice aG R.length kG)/\w5.cell? ⟨b,3,none⟩=some (.pointer (some ⟨g,0,none⟩))/\AZ w5 w.heap.size/\Hid (Q (.returned (autV (n:Int) (some ⟨w.heap.size+1,0,none⟩) k aG R.length kG aN nN cN)) (four w5 w.heap.size (.int .i64 (n:Int)) (.slice (some ⟨w.heap.size+1,0,none⟩) k k) (.slice aG R.length kG) (.slice aN nN cN))):=by
    refine (q8b (hm.st.up hbd) (by have:=HNN.out;omega)).mono ?_
    rintro e w5 ⟨hb5,v5,rfl,ho5⟩
    have hbb:=qd hbd hb5;obtain⟨aN,cN,rfl,hnd,hn5⟩:=qfJ ho5 hm.st.ok;have hm5:=hm.up hbb;have haz:=HI.out.az.up hbb;obtain⟨a2,c2,e2,hzs,_,_⟩:=q9W (T:=29) hm5.rg Tryz.underlying29 q3v;injection e2 with e2 _ e3;subst e2 e3;have hrow:=HI.out.row.upD hbb;have e4:S.length-k=0:=by rw[<-HPL.out];omega
    rw[e4,List.replicate_zero,List.append_nil]at hrow;refine⟨aN,_,cN,rfl,hm5.cn,hm5.cg,hm5.cs,haz,HQ.out _ _ ⟨q52 (qd HI.out.bel hbb) nlr _ _ _ _,bs,some ⟨w.heap.size+1,0,none⟩,aG,kG,aN,cN,by rw[hbs],?_,by rw[hbs,HPL.out],HI.out.fi⟩⟩
    have hA:AutD (if B<=w.heap.size then B else B) w5 bs (some ⟨w.heap.size+1,0,none⟩) aG kG aN cN R N:=by
     have eB:(if B<=w.heap.size then B else B)=B:=by split<;>rfl
     rw[eB];refine⟨⟨rfl,nlr,by rw[hbs];unfold maxLen;omega,fun h=>(by cases h),fun x hx j hj=>?_⟩,hzs,hnd,fun x hx=>?_,fun j hj=>?_,fun x hx=>?_⟩
     ·injection hx with hx
      subst hx;rw[qg,Nat.zero_add];exact hrow.cellD (lge hj)
     ·injection hx with hx
      subst hx;have:=HBB.out.2
      show B<=w.heap.size+1
      omega
     ·rcases hm5.rg.2 with⟨e1,e2⟩|⟨gg,cap,cur,e1,_⟩
      ·omega
      ·injection e1 with e1 _ _
       subst e1;have:=hm5.og gg rfl
       have:=HBB.out.1 gg (by omega)
       simp only[adOf,qg]
       exact this
     ·have h1:=(hn5 x hx).1
      have h2:=HBB.out.2;have h3:=HI.out.bel.size;have h4:wr.drew.heap.size=wr.heap.size:=rfl
      omega
    have eB:(if B<=w.heap.size then B else B)=B:=by split<;>rfl
    rw[eB]at hA;have hzl:=haz.lt;have hb1:(w.heap.size+1)<w5.heap.size:=hrow.ltD
    -- the lists lie elsewhere than the answer's variable
    have hne:∀gg,own gg≠0->gg≠w.heap.size:=fun gg h1 h2=>h1 (HO.out gg (by omega))
    refine⟨?_,⟨hA.zs.hlen,hA.zs.hcap,hA.zs.bd,hA.zs.idx,fun j hj=>?_,fun j hj=>?_,hA.zs.nn⟩,?_,hA.b1,hA.b2,hA.b3⟩
    ·refine hA.bo.keepD fun q v hq hx=>?_
     have e5:q.block=w.heap.size+1:=hx _ rfl;unfold World.cell? at hq ⊢;rw[q53 _ _ _ _ _ _ (by omega)];exact hq
    ·have h1:=hA.zs.cell j hj
     have h2:(adOf aG j).block≠w.heap.size:=by
      rcases hm5.rg.2 with⟨e1,e2⟩|⟨gg,cap,cur,e1,_⟩
      ·omega
      ·injection e1 with e1 _ _
       subst e1;have:=hm5.og gg rfl
       simp only[adOf,qg]
       exact hne gg (by omega)
     unfold World.cell? at h1 ⊢;rw[q53 _ _ _ _ _ _ h2];exact h1
    ·rw[qak];exact hA.zs.blk j hj
    ·cases aN with
     |none=>exact⟨hnd.hlen,hnd.hcap,hnd.bd,hnd.nn,fun x hx=>(by cases hx),fun x hx=>(by cases hx),fun x hx=>(by cases hx),hnd.ok⟩
     |some y=>
      refine hnd.keep fun q v hq hx=>?_
      have e5:=hx y rfl;have h1:=(hn5 y rfl).1;have h3:=HI.out.bel.size;have h4:wr.drew.heap.size=wr.heap.size:=rfl;have h6:=HI.out.row.ltD;unfold World.cell? at hq ⊢;rw[q53 _ _ _ _ _ _ (by omega)];exact hq
   clear HI hm hbd HO HG HS HPS HNN HBB HPL HQ;generalize R.length=Rn at *
   go_upto_region 16 with fail
   go_region_with (first
    | (revert jn;intro jn;go_at_call 52;(with_reducible refine jn.mono ?_);rintro e w5 ⟨aN,nN,cN,rfl,d0,d6,d3,hz3,HR⟩;have z0:w5.cell? ⟨w.heap.size,0,none⟩=some (.int .i64 0):=qb hz3 0;have z1:w5.cell? ⟨w.heap.size,1,none⟩=some (.slice none 0 0):=qb hz3 1;have z2:w5.cell? ⟨w.heap.size,2,none⟩=some (.slice none 0 0):=qb hz3 2;have z3:w5.cell? ⟨w.heap.size,3,none⟩=some (.slice none 0 0):=qb hz3 3;have f0:w5.frozen? ⟨w.heap.size,0,none⟩=false:=frozen_of_row w5 _ 0 _ _ hz3;have f1:w5.frozen? ⟨w.heap.size,1,none⟩=false:=frozen_of_row w5 _ 1 _ _ hz3;have f2:w5.frozen? ⟨w.heap.size,2,none⟩=false:=frozen_of_row w5 _ 2 _ _ hz3;have f3:w5.frozen? ⟨w.heap.size,3,none⟩=false:=frozen_of_row w5 _ 3 _ _ hz3)
    |fail)
   all_goals
    clear jn;go_wp2;refine bodyPost_ret (v:=autV (n:Int) (some ⟨w.heap.size+1,0,none⟩) k aG Rn kG aN nN cN) (by simp[results,Tryz.results29,go_sem,autV,z0,z1,z2,z3]) rfl ?_
    exact HR.out
def OfD (n:Int) (ts:List Tk) (w:World) (e:Ending) (w':World):Prop:=Below w.heap.size w w' /\
 ((∃E:Nat,E≠0/\DetX n ts (.error E)/\e=.returned (.tuple #[autV 0 none 0 none 0 0 none 0 0,.int .i64 (E:Int)])) \/
  ∃T R N S M bs aA aG cG aN cN,KT T/\ts=T.flat/\DetX n ts (.ok (R,N,S,M))/\DetK T n.toNat R N S M/\e=.returned (.tuple #[autV n aA bs.length aG R.length cG aN N.length cN,.int .i64 0])/\AutD w.heap.size w' bs aA aG cG aN cN R N/\bs.length=S.length/\∀(j:Nat) (c:Bool),bs[j]? =some c->(c=true↔FinP M (atD S j)))
structure LsD (w:World) (a:Option Addr) (c:Nat) (ps:List PcU) (S:List (List Nat)):Prop where
 row:w.ownsRow 0 46 1 (.slice a ps.length c) ps.length (ps.map pcD)
 us:∀r∈ps,USl w r.a r.len r.cap r.ts
 is:ps.map PcU.ts=S
def StD2 (n:Int) (ts:List Tk) (w:World) (e:Ending) (w':World):Prop:=Below w.heap.size w w' /\
 ((∃E:Nat,E≠0/\DetX n ts (.error E)/\e=.returned (.tuple #[.slice none 0 0,.int .i64 (E:Int)])) \/
  ∃T R N S M aL cL ps,KT T/\ts=T.flat/\DetX n ts (.ok (R,N,S,M))/\DetK T n.toNat R N S M/\e=.returned (.tuple #[.slice aL ps.length cL,.int .i64 0])/\LsD w' aL cL ps S)
theorem q6P(n:Int)(a:Option Addr)(len cap:Nat)(ts:List Tk)(w:World)(hT:TkSl w a len cap ts)(h64:Tab64 w)(h10:Tab10 w):
  Calls Tryz.prog 14 #[.int .i64 n,.slice a len cap] w (StD2 n ts w):=by
 obtain⟨Q,hQ⟩:∃Q:Ending->World->Prop,Q=StD2 n ts w:=⟨_,rfl⟩
 have HQ:Hid (∀e w',StD2 n ts w e w'->Q e w'):=fun e w' h=>by rw[hQ];exact h
 rw[<-hQ];have jb:=q5k n a len cap ts w hT h64 h10;clear hQ hT h64 h10;go_enter Tryz.func14,Tryz.ntmps14
 go_wp2_with fail
 refine jb.mono ?_
 rintro e w1 ⟨hb1,⟨E,hE,hX,rfl⟩|⟨T,vs,own,b,R,N,S,M,kT,hts,hX,hD,rfl,⟨p,g,mp,vL,vG,ps,hk,hps,hfew⟩,hge⟩⟩
 ·have hne:((E:Int) != 0)=true:=by simp;omega
  have HR:Hid (Q (.returned (.tuple #[.slice none 0 0,.int .i64 (E:Int)])) w1):=HQ.out _ _ ⟨hb1,Or.inl ⟨E,hE,hX,rfl⟩⟩;clear jb hb1 hX hE HQ;go_wp2;exact HR.out
 ·obtain⟨aL,kL,rfl⟩:=q2b hk.rl
  have cl:=hk.cl;have HR:Hid (Q (.returned (.tuple #[.slice aL ps.length kL,.int .i64 0])) w1):=HQ.out _ _ ⟨hb1,Or.inr ⟨T,R,N,S,M,aL,kL,ps,kT,hts,hX,hD,rfl,hk.rl,fun r hr=>(hk.ls r hr).sl,hps⟩⟩
  clear jb hb1 hX HQ kT hts hD hk hps hfew hge;generalize ps.length=K at *;go_wp2;exact HR.out
theorem q5K(n:Int)(a:Option Addr)(len cap:Nat)(ts:List Tk)(w:World)(hT:TkSl w a len cap ts)(h64:Tab64 w)(h10:Tab10 w):
  Calls Tryz.prog 10 #[.int .i64 n,.slice a len cap] w (OfD n ts w):=by
 obtain⟨Q,hQ⟩:∃Q:Ending->World->Prop,Q=OfD n ts w:=⟨_,rfl⟩
 have HQ:Hid (∀e w',OfD n ts w e w'->Q e w'):=fun e w' h=>by rw[hQ];exact h
 rw[<-hQ];have hb1:=qc w (.cells #[.int .i64 0,.slice none 0 0,.slice none 0 0,.slice none 0 0] 32);have HZ1:Hid (AZ (w.alloc (.cells #[.int .i64 0,.slice none 0 0,.slice none 0 0,.slice none 0 0] 32)) w.heap.size):=(MapKept.heap_alloc w _).1;have jb:=q5k n a len cap ts _ (hT.up hb1) (h64.up hb1) (h10.up hb1);have HB1:Hid _:=hb1;have HS1:Hid ((w.alloc (.cells #[.int .i64 0,.slice none 0 0,.slice none 0 0,.slice none 0 0] 32)).heap.size=w.heap.size+1):=by show _=_;simp
 clear hQ hT h64 h10 hb1;go_enter Tryz.func10,Tryz.ntmps10
 go_wp2_with fail
 refine jb.mono ?_
 rintro e w2 ⟨hb2,⟨E,hE,hX,rfl⟩|⟨T,vs,own,b,R,N,S,M,kT,hts,hX,hD,rfl,hO,hge⟩⟩
 ·have hne:((E:Int) != 0)=true:=by simp;omega
  have HR:Hid (Q (.returned (.tuple #[autV 0 none 0 none 0 0 none 0 0,.int .i64 (E:Int)])) (four w2 w.heap.size (.int .i64 0) (.slice none 0 0) (.slice none 0 0) (.slice none 0 0))):=HQ.out _ _ ⟨q52 (qd HB1.out hb2) (Nat.le_refl _) _ _ _ _,Or.inl ⟨E,hE,hX,rfl⟩⟩;have hz3:=AZ.up HZ1.out hb2;have z0:w2.cell? ⟨w.heap.size,0,none⟩=some (.int .i64 0):=qb hz3 0;have z1:w2.cell? ⟨w.heap.size,1,none⟩=some (.slice none 0 0):=qb hz3 1;have z2:w2.cell? ⟨w.heap.size,2,none⟩=some (.slice none 0 0):=qb hz3 2;have z3:w2.cell? ⟨w.heap.size,3,none⟩=some (.slice none 0 0):=qb hz3 3;have f0:w2.frozen? ⟨w.heap.size,0,none⟩=false:=frozen_of_row w2 _ 0 _ _ hz3;have f1:w2.frozen? ⟨w.heap.size,1,none⟩=false:=frozen_of_row w2 _ 1 _ _ hz3;have f2:w2.frozen? ⟨w.heap.size,2,none⟩=false:=frozen_of_row w2 _ 2 _ _ hz3;have f3:w2.frozen? ⟨w.heap.size,3,none⟩=false:=frozen_of_row w2 _ 3 _ _ hz3;clear jb hb2 hX hE HQ hz3;go_wp2;refine bodyPost_ret (v:=.tuple #[autV 0 none 0 none 0 0 none 0 0,.int .i64 (E:Int)]) (by simp[results,Tryz.results10,go_sem,autV,z0,z1,z2,z3]) rfl ?_
  exact HR.out
 ·obtain⟨K,hA⟩:=hD.all
  have hn8:=hX.ok.1;have ja:=q8S hO hA.ok hA.fn hge hb2.size
  have HN:Hid (∀e w3,AuD n.toNat (w.alloc (.cells #[.int .i64 0,.slice none 0 0,.slice none 0 0,.slice none 0 0] 32)).heap.size S R N M w2 e w3->∃aA nA aG nG cG aN nN cN,e=.returned (.agg #[.int .i64 n,.slice aA nA nA,.slice aG nG cG,.slice aN nN cN])/\AZ w3 w.heap.size/\Q (.returned (.tuple #[autV n aA nA aG nG cG aN nN cN,.int .i64 0])) (four w3 w.heap.size (.int .i64 n) (.slice aA nA nA) (.slice aG nG cG) (.slice aN nN cN))):=fun e w3 hq=>by
   obtain⟨hb3,bs,aA,aG,cG,aN,cN,rfl,hAu,hbl,hfi⟩:=hq;have e1:((n.toNat:Nat):Int)=n:=Int.toNat_of_nonneg hn8.1;have hbb:=qd hb2 hb3;refine⟨aA,_,aG,_,cG,aN,_,cN,by unfold autV;rw[e1],AZ.up HZ1.out hbb,HQ.out _ _ ⟨q52 (qd HB1.out hbb) nlr _ _ _ _,Or.inr ⟨T,R,N,S,M,bs,aA,aG,cG,aN,cN,kT,hts,hX,hD,rfl,?_,hbl,hfi⟩⟩⟩
   have hs1:=HS1.out;have h2:=hAu.far (w':=four w3 w.heap.size (.int .i64 n) (.slice aA bs.length bs.length) (.slice aG R.length cG) (.slice aN N.length cN)) (by rw[qak];exact nlr) (fun k h1 _=>q53 _ _ _ _ _ _ (by omega))
   exact⟨h2.bo,h2.zs,h2.nd,fun x hx=>by have:=h2.b1 x hx;omega,fun k hk=>by have:=h2.b2 k hk;omega,fun x hx=>by have:=h2.b3 x hx;omega⟩
  clear jb hb2 hX HQ kT hts hD hO hge hA hn8 HZ1 HB1 HS1
  go_wp2_with fail
  refine ja.mono ?_
  intro e w3 hq;obtain⟨aA,nA,aG,nG,cG,aN,nN,cN,rfl,hz3,hR⟩:=HN.out e w3 hq;have HR:Hid _:=hR;have z0:w3.cell? ⟨w.heap.size,0,none⟩=some (.int .i64 0):=qb hz3 0;have z1:w3.cell? ⟨w.heap.size,1,none⟩=some (.slice none 0 0):=qb hz3 1;have z2:w3.cell? ⟨w.heap.size,2,none⟩=some (.slice none 0 0):=qb hz3 2;have z3:w3.cell? ⟨w.heap.size,3,none⟩=some (.slice none 0 0):=qb hz3 3;have f0:w3.frozen? ⟨w.heap.size,0,none⟩=false:=frozen_of_row w3 _ 0 _ _ hz3;have f1:w3.frozen? ⟨w.heap.size,1,none⟩=false:=frozen_of_row w3 _ 1 _ _ hz3;have f2:w3.frozen? ⟨w.heap.size,2,none⟩=false:=frozen_of_row w3 _ 2 _ _ hz3;have f3:w3.frozen? ⟨w.heap.size,3,none⟩=false:=frozen_of_row w3 _ 3 _ _ hz3;clear ja hq HN hR hz3;go_wp2;refine bodyPost_ret (v:=.tuple #[autV n aA nA aG nG cG aN nN cN,.int .i64 0]) (by simp[results,Tryz.results10,go_sem,autV,z0,z1,z2,z3]) rfl ?_
  exact HR.out
theorem q6F(zs:List Int)(ts:List Tk)(w:World)(he:zs.map tokOf=ts)(hz:∀z∈zs,0<=z/\z<356)(hl:zs.length<=20):
  Calls Tryz.prog 19 #[.slice (some ⟨w.heap.size,0,none⟩) zs.length zs.length] (w.alloc (.cells (zs.map (Value.int .i64)).toArray 3)) fun e w'=>∃a cap,e=.returned (.slice a ts.length cap)/\w'.ownsRow w.heap.size 90 2 (.slice a ts.length cap) ts.length (encT ts)/\TkSl w' a ts.length cap ts/\Below w.heap.size w w':=by
 subst he;have h5:=qeq _ _ _ zs _ (qb1 zs w hl) hz (by omega)
 have hok:∀t∈zs.map tokOf,t.1<256/\t.2<256:=fun t ht=>by
  obtain⟨z,hz1,rfl⟩:=List.mem_map.1 ht;exact qhk (hz z hz1).1 (hz z hz1).2
 have hsz:w.heap.size<=(w.alloc (.cells (zs.map (Value.int .i64)).toArray 3)).heap.size:=by simp
 have hb0:=qc w (.cells (zs.map (Value.int .i64)).toArray 3);generalize w.alloc (.cells (zs.map (Value.int .i64)).toArray 3)=w0 at *;generalize zs.map tokOf=ts at *;go_enter Tryz.func19,Tryz.ntmps19
 go_wp2_with fail
 refine h5.mono ?_
 rintro e w1 ⟨v,rfl,hown,hb1⟩
 obtain⟨a1,c1,rfl,hT1,_⟩:=qj3 hown hok;have HO:Hid (w1.ownsRow w.heap.size 90 2 (.slice a1 ts.length c1) ts.length (encT ts)):=qfL hown hsz;have HT:=hiq hT1;have HB1:Hid (Below w.heap.size w w1):=qd hb0 hb1;clear h5 hown hb1 hT1 hok;go_wp2;go_ret
 exact⟨_,_,rfl,HO.out,HT.out,HB1.out⟩
theorem qiF{T:Tr}(kT:KT T)(hl:T.flat.length<=2048):chkE T.flat=0:=q34.2 ⟨hl,T,kT.wf,kT.np,kT.kr,rfl⟩
theorem OfD.known{n:Int}{ts:List Tk}{w w':World}{e:Ending}(h:OfD n ts w e w'){R:List Int}{N:List Gd}{S:List (List Nat)}{M:Mt}(hX:DetX n ts (.ok (R,N,S,M))):
  ∃bs aA aG cG aN cN,e=.returned (.tuple #[autV n aA bs.length aG R.length cG aN N.length cN,.int .i64 0])/\AutD w.heap.size w' bs aA aG cG aN cN R N/\bs.length=S.length/\(∀(j:Nat) (c:Bool),bs[j]? =some c->(c=true↔FinP M (atD S j)))/\Below w.heap.size w w':=by
 rcases h with⟨hb,⟨E,h0,hx,_⟩|⟨T1,R1,N1,S1,M1,bs,aA,aG,cG,aN,cN,_,_,hx,_,rfl,hA,hl,hf⟩⟩
 ·cases hX.one hx
 ·have h:=hX.one hx
  injection h with h;injection h with h1 h2;injection h2 with h2 h3;injection h3 with h3 h4
  subst h1 h2 h3 h4;exact⟨bs,aA,aG,cG,aN,cN,rfl,hA,hl,hf,hb⟩
theorem StD2.known{n:Int}{ts:List Tk}{w w':World}{e:Ending}(h:StD2 n ts w e w'){R:List Int}{N:List Gd}{S:List (List Nat)}{M:Mt}(hX:DetX n ts (.ok (R,N,S,M))):
  ∃aL cL ps,e=.returned (.tuple #[.slice aL ps.length cL,.int .i64 0])/\LsD w' aL cL ps S/\Below w.heap.size w w':=by
 rcases h with⟨hb,⟨E,h0,hx,_⟩|⟨T1,R1,N1,S1,M1,aL,cL,ps,_,_,hx,_,rfl,hA⟩⟩
 ·cases hX.one hx
 ·have h:=hX.one hx
  injection h with h;injection h with h1 h2;injection h2 with h2 h3;injection h3 with h3 h4
  subst h1 h2 h3 h4;exact⟨aL,cL,ps,rfl,hA,hb⟩
structure Ls3 (w:World) (g c:Nat) (a0:Option Addr) (c0:Nat) (a1:Option Addr) (c1:Nat) (a2:Option Addr) (c2:Nat) (x0 x2:Nat):Prop where
 i0:w.cell? ⟨g,0,none⟩=some (.slice a0 1 c0)
 i1:w.cell? ⟨g,1,none⟩=some (.slice a1 0 c1)
 i2:w.cell? ⟨g,2,none⟩=some (.slice a2 1 c2)
 u0:USl w a0 1 c0 [x0]
 u2:USl w a2 1 c2 [x2]
theorem Ls3.up{w w':World}{g c:Nat}{a0:Option Addr}{c0:Nat}{a1:Option Addr}{c1:Nat}{a2:Option Addr}{c2:Nat}{x0 x2:Nat}(h:Ls3 w g c a0 c0 a1 c1 a2 c2 x0 x2)(hb:Below w.heap.size w w'):Ls3 w' g c a0 c0 a1 c1 a2 c2 x0 x2 :=
 ⟨qn h.i0 hb,qn h.i1 hb,qn h.i2 hb,h.u0.up hb,h.u2.up hb⟩
theorem LsD.three{w:World}{a:Option Addr}{c:Nat}{ps:List PcU}{x0 x2:Nat}(h:LsD w a c ps [[x0],[],[x2]]):ps.length=3/\∃g a0 c0 a1 c1 a2 c2,a=some ⟨g,0,none⟩/\Ls3 w g c a0 c0 a1 c1 a2 c2 x0 x2:=by
 have hl:ps.length=3:=by have:=congrArg List.length h.is;simpa using this
 obtain⟨r0,r1,r2,rfl⟩:∃r0 r1 r2,ps=[r0,r1,r2]:=by
  match ps,hl with
  | [r0,r1,r2],_=>exact⟨r0,r1,r2,rfl⟩
 have his:=h.is;simp at his
 obtain⟨h0,h1,h2⟩:=his;have u0:=h.us r0 (by simp)
 have u1:=h.us r1 (by simp)
 have u2:=h.us r2 (by simp)
 rw[h0]at u0;rw[h1]at u1;rw[h2]at u2;have l0:=u0.len;have l1:=u1.len;have l2:=u2.len;simp at l0 l1 l2
 obtain⟨g,cap,e1,_,_,k0,_,_⟩:=q3c h.row (i:=0) (by simp) (.bool true)
 injection e1 with e1 _ e2;subst e1 e2;obtain⟨g',cap',e1,_,_,k1,_,_⟩:=q3c h.row (i:=1) (by simp) (.bool true)
 injection e1 with e1 _ e2;injection e1 with e1;injection e1 with e1
 subst e1;obtain⟨g',cap',e1,_,_,k2,_,_⟩:=q3c h.row (i:=2) (by simp) (.bool true)
 injection e1 with e1 _ e2;injection e1 with e1;injection e1 with e1
 subst e1;simp[pcD,l0]at k0
 simp[pcD,l1]at k1
 simp[pcD,l2]at k2
 rw[l0]at u0;rw[l2]at u2;exact⟨rfl,g,r0.a,r0.cap,r1.a,r1.cap,r2.a,r2.cap,rfl,k0,k1,k2,u0,u2⟩
theorem qgr(M:Mt):¬FinP M []:=fun⟨s,hs,_⟩=>by cases hs
theorem qj4:¬FinP [[(2,0)]] [1]:=fun h=>by
 have:=(qfn kt_p0).1 h
 revert this
 decide
theorem qhj{bs:List Bool}(hl:bs.length=3)(hf:∀(j:Nat) (c:Bool),bs[j]? =some c->(c=true↔FinP [[(2,0)]] (atD [[1],[],[0]] j))):bs=[false,false,true]:=by
 match bs,hl with
 | [b0,b1,b2],_=>
  have h0:=hf 0 b0 rfl;have h1:=hf 1 b1 rfl;have h2:=hf 2 b2 rfl
  have e0:b0=false:=by
   cases b0 with
   |false=>rfl
   |true=>exact absurd (h0.1 rfl) qj4
  have e1:b1=false:=by
   cases b1 with
   |false=>rfl
   |true=>exact absurd (h1.1 rfl) (qgr _)
  have e2:b2=true:=h2.2 (qfm _);rw[e0,e1,e2]
theorem dx_p0:DetX 1 [(2,0)] (.ok ([0,-2,-3],[(0,-2,-3)],[[1],[],[0]],[[(2,0)]])):=DetX.ofDet ⟨by decide,by decide⟩ (qiF kt_p0 (by decide)) (by decide) kt_p0 rfl dk1
theorem bolit(w:World)(bs:List Bool)(hl:bs.length<=1000):BoSl (w.alloc (.cells (bs.map Value.bool).toArray 4)) (some ⟨w.heap.size,0,none⟩) bs.length bs.length bs:=by
 have h:BoRow (w.alloc (.cells (bs.map Value.bool).toArray 4)) w.heap.size bs:=(mha w _).1;refine⟨rfl,nlr,by unfold maxLen;omega,fun e=>(by cases e),fun x hx k hk=>?_⟩
 injection hx with hx;subst hx;rw[qg,Nat.zero_add];exact h.cellD (lge hk)
theorem qel{w:World}{a:Option Addr}{c:Nat}(hT:TkSl w a 1 c [(2,0)])(h64:Tab64 w)(h10:Tab10 w):Calls Tryz.prog 10 #[.int .i64 1,.slice a 1 c] w fun e w'=>∃aA aG cG aN cN,e=.returned (.tuple #[.agg #[.int .i64 1,.slice aA 3 3,.slice aG 3 cG,.slice aN 1 cN],.int .i64 0])/\Hid (AutD w.heap.size w' [false,false,true] aA aG cG aN cN [0,-2,-3] [(0,-2,-3)])/\Hid (Below w.heap.size w w'):=by
 refine (q5K 1 a 1 c [(2,0)] w hT h64 h10).mono ?_
 intro e w' h;obtain⟨bs,aA,aG,cG,aN,cN,rfl,hA,hl,hf,hb⟩:=h.known dx_p0;obtain rfl:=qhj hl hf
 exact⟨aA,aG,cG,aN,cN,rfl,hA,hb⟩
theorem qep{n:Int}{ts:List Tk}{w:World}{a:Option Addr}{len c:Nat}(hT:TkSl w a len c ts)(h64:Tab64 w)(h10:Tab10 w){R:List Int}{N:List Gd}{M:Mt}{x0 x2:Nat}(hX:DetX n ts (.ok (R,N,[[x0],[],[x2]],M))):Calls Tryz.prog 14 #[.int .i64 n,.slice a len c] w fun e w'=>∃g c a0 c0 a1 c1 a2 c2,e=.returned (.tuple #[.slice (some ⟨g,0,none⟩) 3 c,.int .i64 0])/\Hid (Ls3 w' g c a0 c0 a1 c1 a2 c2 x0 x2)/\Hid (Below w.heap.size w w'):=by
 refine (q6P n a len c ts w hT h64 h10).mono ?_
 intro e w' h;obtain⟨aL,cL,ps,rfl,hL,hb⟩:=h.known hX;obtain⟨h3,g,a0,c0,a1,c1,a2,c2,rfl,hL3⟩:=hL.three;rw[h3];exact⟨g,cL,a0,c0,a1,c1,a2,c2,rfl,hL3,hb⟩
theorem q5w{w:World}{a:Option Addr}{c x y:Nat}(h:USl w a 1 c [x])(hxy:x=y):Calls Tryz.prog 22 #[.slice a 1 c,.slice (some ⟨w.heap.size,0,none⟩) 1 1] (w.alloc (.cells #[.int .u64 (y:Int)] 55)) fun e w'=>e=.returned (.bool true)/\Below w.heap.size w w':=by
 subst hxy;have hb:=qc w (.cells #[.int .u64 (x:Int)] 55);refine (q9w a 1 c (iU [x]) _ 1 1 (iU [x]) _ (h.up hb) (q3M [x] w (by simp))).mono ?_
 rintro e w' ⟨rfl,k,rfl⟩
 exact⟨by simp,hb.trans ((q4j ⟨k,rfl⟩).mono hb.size)⟩
theorem qhs(w5 w6:World)(hw6:w6=(((w5.alloc (.cells #[.bool false,.bool false,.bool true] 4)).alloc (.cells #[.int .i64 0,.int .i64 (-2),.int .i64 (-3)] 3)).alloc (.cells #[.int .i64 0,.int .i64 (-2),.int .i64 (-3)] 57)).alloc (.cells #[.int .i64 1,.slice (some ⟨w5.heap.size,0,none⟩) 3 3,.slice (some ⟨w5.heap.size+1,0,none⟩) 3 3,.slice (some ⟨w5.heap.size+1+1,0,none⟩) 1 1] 32 (0,0))):
  Below w5.heap.size w5 w6/\BoSl w6 (some ⟨w5.heap.size,0,none⟩) 3 3 [false,false,true]/\ZSl w6 (some ⟨w5.heap.size+1,0,none⟩) 3 3 [0,-2,-3]/\NdSl w6 (some ⟨w5.heap.size+1+1,0,none⟩) 1 1 [(0,-2,-3)]/\AuB w6 (w5.heap.size+1+1+1) 1 (some ⟨w5.heap.size,0,none⟩) 3 3 (some ⟨w5.heap.size+1,0,none⟩) 3 3 (some ⟨w5.heap.size+1+1,0,none⟩) 1 1:=by
 obtain⟨wa,ha⟩:∃wa,wa=w5.alloc (.cells #[.bool false,.bool false,.bool true] 4):=⟨_,rfl⟩
 obtain⟨wb,hb⟩:∃wb,wb=wa.alloc (.cells #[.int .i64 0,.int .i64 (-2),.int .i64 (-3)] 3):=⟨_,rfl⟩
 obtain⟨wc,hc⟩:∃wc,wc=wb.alloc (.cells #[.int .i64 0,.int .i64 (-2),.int .i64 (-3)] 57):=⟨_,rfl⟩
 rw[<-ha,<-hb,<-hc]at hw6;have za:wa.heap.size=w5.heap.size+1:=by rw[ha];simp
 have zb:wb.heap.size=w5.heap.size+1+1:=by rw[hb];simp[za]
 have zc:wc.heap.size=w5.heap.size+1+1+1:=by rw[hc];simp[zb]
 have b1:Below w5.heap.size w5 wa:=by rw[ha];exact qc _ _
 have b2:Below wa.heap.size wa wb:=by rw[hb];exact qc _ _
 have b3:Below wb.heap.size wb wc:=by rw[hc];exact qc _ _
 have b4:Below wc.heap.size wc w6:=by rw[hw6];exact qc _ _
 have h1:BoSl wa (some ⟨w5.heap.size,0,none⟩) 3 3 [false,false,true]:=by rw[ha];exact bolit w5 [false,false,true] (by decide)
 have h2:ZSl wb (some ⟨w5.heap.size+1,0,none⟩) 3 3 [0,-2,-3]:=by rw[hb,<-za];exact zlit wa [0,-2,-3] (by decide)
 have h3:NdSl wc (some ⟨w5.heap.size+1+1,0,none⟩) 1 1 [(0,-2,-3)]:=by
  rw[hc,<-zb]
  exact ndlit wb [(0,-2,-3)] (by decide) (fun t ht=>by
   have:t=(0,-2,-3):=by simpa using ht
   subst this;exact⟨⟨by decide,by decide⟩,⟨by decide,by decide⟩,⟨by decide,by decide⟩⟩)
 have h4:AuB w6 (w5.heap.size+1+1+1) 1 (some ⟨w5.heap.size,0,none⟩) 3 3 (some ⟨w5.heap.size+1,0,none⟩) 3 3 (some ⟨w5.heap.size+1+1,0,none⟩) 1 1:=by rw[hw6,<-zc];exact q3C wc 1 _ 3 3 _ 3 3 _ 1 1
 exact⟨qd (qd (qd b1 b2) b3) b4,((h1.up b2).up b3).up b4,(h2.up b3).up b4,h3.up b4,h4⟩
theorem q7H(w:World)(h64:Tab64 w)(h10:Tab10 w):Calls Tryz.prog 6 #[] w (BR true w):=by
 have H64:Hid _:=h64;have H10:Hid _:=h10;have j1:=q6F [0] [(2,0)] w rfl (by decide) (by decide)
 simp only[List.length_cons,List.length_nil,List.map_cons,List.map_nil,Nat.zero_add]at j1
 clear h64 h10;go_enter Tryz.func6,Tryz.ntmps6
 go_wp2_with fail
 refine j1.mono ?_
 rintro e w1 ⟨a1,c1,rfl,_,hT1,hb1⟩
 have HB1:Hid _:=hb1;have j2:=qel hT1 (Tab64.up H64.out hb1) (Tab10.up H10.out hb1);clear j1 hT1 hb1
 go_wp2_with fail
 refine j2.mono ?_
 rintro e w2 ⟨aA,aG,cG,aN,cN,rfl,HA2,HB2⟩
 obtain⟨w3,hw3⟩:∃w3,w3=w2.alloc (.cells #[.int .i64 1,.slice aA 3 3,.slice aG 3 cG,.slice aN 1 cN] 32 (0,0)):=⟨_,rfl⟩
 have HW3:Hid _:=hw3;have b3:Below w2.heap.size w2 w3:=by rw[hw3];exact qc _ _
 have z3:w3.heap.size=w2.heap.size+1:=by rw[hw3];simp
 have HB3:Hid (Below w.heap.size w w3):=qd (qd HB1.out HB2.out) b3;have HA3:Hid _:=HA2.out.up b3;have HV3:Hid (AuB w3 w2.heap.size 1 aA 3 3 aG 3 cG aN 1 cN):=by rw[hw3];exact q3C w2 1 aA 3 3 aG 3 cG aN 1 cN
 have j3:=q6F [0] [(2,0)] w3 rfl (by decide) (by decide)
 simp only[List.length_cons,List.length_nil,List.map_cons,List.map_nil,Nat.zero_add]at j3
 rw[z3]at j3;have HZ3:Hid _:=z3;clear j2 hw3 b3 HB1 HB2 HA2 z3
 go_wp2_with fail
 rw[<-HW3.out];refine j3.mono ?_
 rintro e w4 ⟨a4,c4,rfl,_,hT4,hb4⟩
 rw[<-HZ3.out]at hb4;have HB4:Hid _:=qd HB3.out hb4;have HA4:Hid _:=HA3.out.up hb4;have HV4:Hid _:=HV3.out.up hb4;have j5:=qep hT4 (Tab64.up H64.out HB4.out) (Tab10.up H10.out HB4.out) dx_p0;clear j3 hT4 hb4 HB3 HA3 HV3 HW3 HZ3
 go_wp2_with fail
 refine j5.mono ?_
 rintro e w5 ⟨g,c,b0,d0,b1,d1,b2,d2,rfl,HL5,HB5⟩
 have HBw5:Hid _:=qd HB4.out HB5.out;have HA5:Hid _:=HA4.out.up HB5.out;have HV5:Hid _:=HV4.out.up HB5.out;clear j5 HB4 HA4 HV4 HB5;obtain⟨w6,hw6⟩:∃w6,w6=(((w5.alloc (.cells #[.bool false,.bool false,.bool true] 4)).alloc (.cells #[.int .i64 0,.int .i64 (-2),.int .i64 (-3)] 3)).alloc (.cells #[.int .i64 0,.int .i64 (-2),.int .i64 (-3)] 57)).alloc (.cells #[.int .i64 1,.slice (some ⟨w5.heap.size,0,none⟩) 3 3,.slice (some ⟨w5.heap.size+1,0,none⟩) 3 3,.slice (some ⟨w5.heap.size+1+1,0,none⟩) 1 1] 32 (0,0)):=⟨_,rfl⟩
 obtain⟨b56,k1,k2,k3,v6⟩:=qhs w5 w6 hw6;have HW6:Hid _:=hw6;have HBw6:Hid _:=qd HBw5.out b56;have HL6:Hid _:=HL5.out.up b56;have h6:=HA5.out.up b56;have jS:=q88 1 aA 3 3 aG 3 cG aN 1 cN _ 3 _ 3 _ 1 [false,false,true] [0,-2,-3] [(0,-2,-3)] w6 h6.bo h6.zs h6.nd k1 k2 k3;obtain⟨x0,x1,x2,x3⟩:=HV5.out.up b56;obtain⟨y0,y1,y2,y3⟩:=v6;rw[hw6]at x0 x1 x2 x3 y0 y1 y2 y3;have HJS:Hid _:=jS;clear b56 k1 k2 k3 h6 jS HBw5 HA5 HV5 HL5 hw6
 go_wp2_with fail
 rw[<-HW6.out];refine Calls.mono HJS.out ?_
 rintro e w7 ⟨rfl,hb7⟩
 have HBw7:Hid _:=qd HBw6.out hb7;have hL7:=HL6.out.up hb7;have hx0:∀w',(Instr.indexAt 41 (.slice (some ⟨g,0,none⟩) 3 c) (.int .i64 0)).run Tryz.prog w'=.ok (.pointer (some ⟨g,0,none⟩)) w':=fun w'=>q2K g 3 c 0 (by decide) w'
 have hx1:∀w',(Instr.indexAt 41 (.slice (some ⟨g,0,none⟩) 3 c) (.int .i64 1)).run Tryz.prog w'=.ok (.pointer (some ⟨g,1,none⟩)) w':=fun w'=>q2K g 3 c 1 (by decide) w'
 have hx2:∀w',(Instr.indexAt 41 (.slice (some ⟨g,0,none⟩) 3 c) (.int .i64 2)).run Tryz.prog w'=.ok (.pointer (some ⟨g,2,none⟩)) w':=fun w'=>q2K g 3 c 2 (by decide) w'
 have i0:=hL7.i0;have HL7:Hid _:=hL7;have j8:Calls Tryz.prog 22 #[.slice b0 1 d0,.slice (some ⟨w7.heap.size,0,none⟩) 1 1] (w7.alloc (.cells #[.int .u64 1] 55)) fun e w'=>e=.returned (.bool true)/\Below w7.heap.size w7 w':=q5w hL7.u0 rfl
 clear HJS HBw6 hb7 HL6 x0 x1 x2 x3 y0 y1 y2 y3 hL7
 go_wp2_with fail
 refine j8.mono ?_
 rintro e w8 ⟨rfl,hb8⟩
 have HBw8:Hid _:=qd HBw7.out hb8;have hL8:=HL7.out.up hb8;have i1:=hL8.i1;have i2:=hL8.i2;have j9:Calls Tryz.prog 22 #[.slice b2 1 d2,.slice (some ⟨w8.heap.size,0,none⟩) 1 1] (w8.alloc (.cells #[.int .u64 0] 55)) fun e w'=>e=.returned (.bool true)/\Below w8.heap.size w8 w':=q5w hL8.u2 rfl
 clear j8 hb8 HL7 i0 hL8 HBw7
 go_wp2_with fail
 refine j9.mono ?_
 rintro e w9 ⟨rfl,hb9⟩
 have HBw9:Hid _:=qd HBw8.out hb9;clear j9 hb9 HBw8 i1 i2;go_wp2;go_ret
 exact⟨rfl,HBw9.out⟩
end Go.Proofs.YtailhklbmenaoaaGreatDoor
namespace Go.Proofs.YtailhklbmenaoaaGreatDoor
open Go.RowKit Go.Maps Go.Sort
theorem qfV{N:List Gd}{R:List Int}{q x v:Nat}{t:List Nat}(h:goG N x 8 (R.getD q 0)=some ((v:Nat):Int)):runD N R q (x::t)=runD N R v t:=by
 conv=>lhs;unfold runD
 rw[h]
 rfl
theorem qiD{zs:List Int}{i z:Nat}(hi:i<zs.length)(hz:zs[i]=(z:Int)):(zN zs).drop i=z::(zN zs).drop (i+1):=by
 have hl:i<(zN zs).length:=by rw[q1f];exact hi
 rw[List.drop_eq_getElem_cons hl]
 congr 1
 simp[zN,hz]
structure RuI (T:Tr) (n:Nat) (R:List Int) (N:List Gd) (S:List (List Nat)) (t:List Nat) (w:World) (i q:Nat) (wr:World):Prop where
 bel:Below w.heap.size w wr
 lt:q<S.length
 is:runD N R 0 t=runD N R q (t.drop i)
theorem qaT{B:Nat}{w:World}{bs:List Bool}{aA aG:Option Addr}{cG:Nat}{aN:Option Addr}{cN:Nat}{R:List Int}{N:List Gd}{T:Tr}{n:Nat}{S:List (List Nat)}{M:Mt}(p:Int)(hA:AutD B w bs aA aG cG aN cN R N)(hK:DetK T n R N S M)(hn:n<=8)(hbl:bs.length=S.length)(d:Option Addr)(m c:Nat)(zs:List Int)(hL:LtSl w d m c zs)(hsm:∀x∈zN zs,x<2 ^ n)(hm9:m<=1000):
  Calls Tryz.prog 12 #[autV p aA bs.length aG R.length cG aN N.length cN,.slice d m c] w fun e w'=>∃q,runD N R 0 (zN zs)=some q/\q<S.length/\e=.returned (.tuple #[.int .i64 (q:Int),.bool true])/\Below w.heap.size w w':=by
 obtain⟨Q,hQ⟩:∃Q:Ending->World->Prop,Q=fun e w'=>∃q,runD N R 0 (zN zs)=some q/\q<S.length/\e=.returned (.tuple #[.int .i64 (q:Int),.bool true])/\Below w.heap.size w w':=⟨_,rfl⟩
 have HQ:Hid (∀e w',(∃q,runD N R 0 (zN zs)=some q/\q<S.length/\e=.returned (.tuple #[.int .i64 (q:Int),.bool true])/\Below w.heap.size w w')->Q e w'):=fun e w' h=>by rw[hQ];exact h
 rw[<-hQ];clear hQ;have hb0:=qc w (.cells #[.int .i64 p,.slice aA bs.length bs.length,.slice aG R.length cG,.slice aN N.length cN] 32 (0,0));have HV0:Hid _:=q3C w p aA bs.length bs.length aG R.length cG aN N.length cN;have HA:Hid _:=hA;have HK:Hid _:=hK;have HL:Hid _:=hL;have HSM:Hid _:=hsm;have HLN:Hid (zs.length=m):=hL.sl.hlen;have HRL:Hid (R.length=S.length):=hK.len;have HBL:Hid _:=hbl;have HMay:Hid (MayG n S.length N R):=hK.may hn;have h256:S.length<=256:=HMay.out.s2;have H0:Hid (0<S.length):=HMay.out.s1;have HN8:Hid _:=hn;have HB0:Hid _:=hb0;obtain⟨w1,hw1⟩:∃w1,w1=w.alloc (.cells #[.int .i64 p,.slice aA bs.length bs.length,.slice aG R.length cG,.slice aN N.length cN] 32 (0,0)):=⟨_,rfl⟩
 have HW1:Hid _:=hw1;rw[<-hw1]at HB0 HV0;clear hA hK hL hsm hb0 hbl hn hw1;unfold autV;go_enter Tryz.func12,Tryz.ntmps12
 go_wp2;rw[<-HW1.out]
 go_loopw [6,7] (fun v j wr=>∃(i q:Nat),i<=m/\j=.int .i64 (i:Int)/\v=.int .i64 (q:Int)/\Hid (RuI T n R N S (zN zs) w1 i q wr)) (fun _ j _=>m-(intOf j).toNat)
 case atStart=>exact⟨0,0,Nat.zero_le _,rfl,rfl,Below.refl _ _,H0.out,rfl⟩
 case round=>
  obtain⟨i,q,hi,rfl,rfl,HI⟩:=hrel;have hq:=HI.out.lt;have hbw:=qd HB0.out HI.out.bel;obtain⟨c0,c1,c2,c3⟩:=HV0.out.up HI.out.bel;by_cases hlt:i<m
  ·have hiz:i<zs.length:=by have:=HLN.out;omega
   have hS:=HL.out.sl.up hbw;have hixl:=fun w'=>hS.idx m i w' hlt nlr
   have hcl:=hS.cell i hlt;have hok:=HL.out.ok zs[i] (List.getElem_mem hiz);have hgd:zs.getD i 0=zs[i]:=by simp[List.getD,hiz]
   rw[hgd]at hcl;obtain⟨z,hzx⟩:=Int.eq_ofNat_of_zero_le hok.1;rw[hzx]at hcl;have hz256:z<256:=by omega
   have hzn:z<2 ^ n:=HSM.out z (List.mem_map.2 ⟨zs[i],List.getElem_mem hiz,by rw[hzx];rfl⟩)
   obtain⟨v,hv1,hv2,_⟩:=HK.out.go hq hzn;have hqR:q<R.length:=by rw[HRL.out];exact hq
   have hau:=HA.out.up hbw;have hixg:=fun w'=>hau.zs.idx R.length q w' hqR nlr
   have hcg:=hau.zs.cell q hqR
   have hi64:I64 (R.getD q 0):=by
    have hg:R.getD q 0∈R:=by rw[List.getD_eq_getElem?_getD,lge hqR];exact List.getElem_mem hqR
    have h1:=HMay.out.few;unfold I64;rcases HMay.out.gd _ hg with⟨h2,h3⟩|⟨j,h2,h3,_⟩
    ·constructor<;>omega
    ·rw[h2];constructor<;>omega
   have HI2:Hid (∀wx,Below wr.heap.size wr wx->RuI T n R N S (zN zs) w1 (i+1) v wx):=fun wx hb=>⟨qd HI.out.bel hb,hv2,by rw[HI.out.is,qiD hiz hzx,qfV hv1]⟩
   have cS:∀d os,Calls Tryz.prog 32 #[.slice aN N.length cN,.int .i64 (R.getD q 0),.int .u8 (z:Int)] (grow (redrawn wr d) os) fun e w''=>e=.returned (.tuple #[.int .i64 (v:Int),.bool true])/\∃p:Regrown,w''=grow (redrawn wr p.d) p.os:=fun d os=>by
    have hb:=below_regrown wr d os;refine (qbG aN N.length cN N (R.getD q 0) z _ (hau.nd.up hb) hi64 hz256).mono ?_
    rintro e w'' ⟨rfl,h2⟩
    rw[hv1];exact⟨rfl,regrown_of_below (qd hb h2)⟩
   have HE:Hid (∀d os,Below wr.heap.size wr (grow (redrawn wr d) os)):=fun d os=>below_regrown wr d os
   have dq0:decide ((q:Int)<0)=false:=by simp
   have dq1:decide (R.length<=q)=false:=by simp;exact hqR
   have k2:=cell_regrown c2;have k3:=cell_regrown c3;have kg:=cell_regrown hcg;have kl:=cell_regrown hcl;clear hau hcg hcl hi64 hS hgd hzx hok c0 c1 c3 HI hv1 hv2 hzn hbw;generalize R.getD q 0=rq at *;generalize R.length=Rn at *;generalize N.length=Nn at *;generalize bs.length=Bn at *;generalize adOf aG q=ag at *;generalize adOf d i=al at *;obtain⟨ag1,ag2,ag3⟩:=ag;obtain⟨al1,al2,al3⟩:=al
   go_wp2_with fail
   clear c2;refine wp_region_quiet_below (by kernel_rfl) (by kernel_rfl) ?_
   repeat (go_big_quiet_step (exact cS _ _))
   refine wpQuiet_nil ?_
   intro _ hw';obtain⟨⟨dq,osq⟩,hw''⟩:=hw';subst hw'';have HI3:Hid _:=HI2.out _ (HE.out dq osq);generalize grow (redrawn wr dq) osq=wx at *;clear cS k2 k3 kg kl HI2 HE;go_wp2
   go_roundw
   case rel=>exact⟨i+1,v,by omega,by go_num,rfl,HI3⟩
   case measure=>simp[intOf]<;>omega
  ·obtain rfl:i=m:=by omega
   have hd:(zN zs).drop i=[]:=List.drop_eq_nil_of_le (by rw[q1f,HLN.out];exact nlr)
   have hfin:runD N R 0 (zN zs)=some q:=by rw[HI.out.is,hd];rfl
   have HR:Hid (∀wx,Below wr.heap.size wr wx->Q (.returned (.tuple #[.int .i64 (q:Int),.bool true])) wx):=fun wx hb=>HQ.out _ _ ⟨q,hfin,hq,rfl,qd hbw hb⟩
   have dq0:decide ((0:Int)<=(q:Int))=true:=by simp
   have hqB:q<bs.length:=by rw[HBL.out];exact hq
   have dq1:decide ((q:Int)<(bs.length:Int))=true:=by simp;exact hqB
   clear HI hd hfin hbw HQ c0 c2 c3;generalize bs.length=Bn at *;generalize R.length=Rn at *;generalize N.length=Nn at *
   go_wp2_with fail
   go_quiet (fail)
   go_wp2;exact HR.out _ (q4j ⟨_,rfl⟩)
end Go.Proofs.YtailhklbmenaoaaGreatDoor
namespace Go.Proofs.YtailhklbmenaoaaGreatDoor
open Go.RowKit Go.Maps
theorem q8U(n z:Nat)(w:World)(hn:n<=8):Calls Tryz.prog 24 #[.int .i64 (n:Int),.int .u8 (z:Int)] w fun e w'=>e=.returned (.bool (decide (z<2 ^ n)))/\w'=w:=by
 obtain⟨b,hb⟩:∃b,b=decide (z<2 ^ n):=⟨_,rfl⟩
 rw[<-hb];have HB:Hid _:=hb
 have hq:((z:Int) / 2 ^ n==0)=b:=by
  rw[hb,q7x,Nat.shiftRight_eq_div_pow];by_cases h:z<2 ^ n
  ·rw[Nat.div_eq_of_lt h];simp[h]
  ·have:¬z / 2 ^ n=0:=fun e=>h (by rcases Nat.div_eq_zero_iff.1 e with e|e;exact absurd e (Nat.ne_of_gt (Nat.two_pow_pos n));exact e)
   rw[decide_eq_false h,bqn]
   omega
 have hmin:min n 8=n:=by omega
 have d0:decide ((0:Int)<=(n:Int))=true:=decide_eq_true (by omega)
 have d1:decide ((n:Int)<=8)=true:=decide_eq_true (by omega)
 clear hb;go_enter Tryz.func24,Tryz.ntmps24
 go_wp2;go_ret
 exact⟨by simp,rfl⟩
theorem q7J(n:Nat)(d:Option Addr)(m c:Nat)(zs:List Int)(w:World)(hn:n<=8)(hL:LtSl w d m c zs)(hm:m<=1024):
  Calls Tryz.prog 7 #[.int .i64 (n:Int),.slice d m c] w fun e w'=>∃E:Int,e=.returned (.int .i64 E)/\Below w.heap.size w w'/\(E=0->∀x∈zN zs,x<2 ^ n):=by
 obtain⟨Q,hQ⟩:∃Q:Ending->World->Prop,Q=fun e w'=>∃E:Int,e=.returned (.int .i64 E)/\Below w.heap.size w w'/\(E=0->∀x∈zN zs,x<2 ^ n):=⟨_,rfl⟩
 have HQ:Hid (∀(E:Int) w',Below w.heap.size w w'->(E=0->∀x∈zN zs,x<2 ^ n)->Q (.returned (.int .i64 E)) w'):=fun E w' h1 h2=>by rw[hQ];exact⟨E,rfl,h1,h2⟩
 rw[<-hQ];have hlen:=hL.sl.hlen;have HL:=hiq hL;have d0:decide ((0:Int)<=(n:Int))=true:=decide_eq_true (by omega)
 have d1:decide ((n:Int)<=8)=true:=decide_eq_true (by omega)
 have hmi:¬(1024:Int)<(m:Int):=by omega
 clear hL hQ;go_enter Tryz.func7,Tryz.ntmps7
 go_wp2
 go_loopw [15] (fun i wr=>∃k:Nat,k<=m/\i=.int .i64 k/\Hid (Below w.heap.size w wr)/\Hid (∀j,j<k->(zN zs).getD j 0<2 ^ n)) (fun i _=>m-(intOf i).toNat)
 case atStart=>exact⟨0,Nat.zero_le _,rfl,Below.refl _ _,fun j hj=>absurd hj (Nat.not_lt_zero j)⟩
 case round=>
  obtain⟨k,hk,rfl,HW,HD⟩:=hrel;by_cases hlt:k<m
  ·have hLr:=HL.out.up HW.out
   have hi1:=fun w'=>hLr.sl.idx m k w' hlt nlr
   have hc1:=hLr.sl.cell k hlt;have hkz:k<zs.length:=by omega
   have hok:=HL.out.ok zs[k] (List.getElem_mem hkz);have hgd:zs.getD k 0=zs[k]:=by simp[List.getD,hkz]
   rw[hgd]at hc1;obtain⟨z,hzx⟩:=Int.eq_ofNat_of_zero_le hok.1;rw[hzx]at hc1;have hzk:(zN zs).getD k 0=z:=by simp[zN,List.getD_eq_getElem?_getD,hkz,hzx]
   have hft:=q8U n z wr hn;by_cases hz:z<2 ^ n
   ·rw[decide_eq_true hz]at hft
    have HD2:Hid (∀j,j<k+1->(zN zs).getD j 0<2 ^ n):=fun j hj=>by
     by_cases e:j=k
     ·subst e;rw[hzk];exact hz
     ·exact HD.out j (by omega)
    clear hLr hok hgd hzx hz hzk HD
    go_wp2_with fail
    refine hft.mono ?_
    rintro e w2 ⟨rfl,rfl⟩
    go_wp2
    go_roundw
    case rel=>exact⟨k+1,by omega,by go_num,HW,HD2⟩
    case measure=>simp[intOf]<;>omega
   ·rw[decide_eq_false hz]at hft
    have HR:Hid (Q (.returned (.int .i64 2)) wr):=HQ.out 2 wr HW.out (fun h=>absurd h (by decide))
    clear hLr hok hgd hzx hz hzk HD HQ
    go_wp2_with fail
    refine hft.mono ?_
    rintro e w2 ⟨rfl,rfl⟩
    go_wp2;exact HR.out
  ·obtain rfl:k=m:=by omega
   have HR:Hid (Q (.returned (.int .i64 0)) wr):=HQ.out 0 wr HW.out (fun _ x hx=>by
    obtain⟨j,hj,rfl⟩:=List.mem_iff_getElem.1 hx;have hl:(zN zs).length=k:=by rw[q1f,hlen]
    have:=HD.out j (by omega)
    rwa [List.getD_eq_getElem?_getD,lge hj]at this)
   clear HQ HD;go_wp2;exact HR.out
theorem AllR.yes{ts:List Tk}{zs:List Int}{w w':World}{e:Ending}(h:AllR ts zs w e w')(h1:lookE ts 1=0)(h2:trE zs=0):∃bs a c,e=.returned (.tuple #[.slice a bs.length c,.int .i64 0])/\BoSl w' a bs.length c bs/\ValB (zN zs) ts bs/\Below w.heap.size w w':=by
 obtain⟨v,E,rfl,hb,⟨h0,h3|h3,_⟩|⟨rfl,_,_,bs,ho,hv⟩⟩:=h
 ·exact absurd h1 h3.1
 ·exact absurd (h3.2.trans h2) h0
 ·obtain⟨a,c,rfl,hB⟩:=qj1 ho
  exact⟨bs,a,c,rfl,hB,hv,hb⟩
theorem qiS(w:World):LtSl w none 0 0 []:=⟨⟨rfl,nlr,Nat.zero_le _,fun m k w hk hm=>absurd hk (by omega),fun k hk=>absurd hk (by omega),fun k hk=>absurd hk (by omega),fun _=>rfl⟩,fun z hz=>(by cases hz)⟩
theorem q8V{T:Tr}(kT:KT T)(a:Option Addr)(len cap:Nat)(w:World)(hT:TkSl w a len cap T.flat)(hl:lookE T.flat 1=0):Calls Tryz.prog 13 #[.slice a len cap] w fun e w'=>∃b,e=.returned (.bool b)/\(b=true↔(semTr [] T).1 0)/\Below w.heap.size w w':=by
 obtain⟨Q,hQ⟩:∃Q:Ending->World->Prop,Q=fun e w'=>∃b,e=.returned (.bool b)/\(b=true↔(semTr [] T).1 0)/\Below w.heap.size w w':=⟨_,rfl⟩
 have HQ:Hid (∀(b:Bool) w',(b=true↔(semTr [] T).1 0)->Below w.heap.size w w'->Q (.returned (.bool b)) w'):=fun b w' h1 h2=>by rw[hQ];exact⟨b,rfl,h1,h2⟩
 rw[<-hQ];have ja:=q5q a len cap T.flat none 0 0 [] w hT (qiS w)
 have HN:Hid (∀e w',AllR T.flat [] w e w'->∃ab cb b0,e=.returned (.tuple #[.slice ab 1 cb,.int .i64 0])/\(∀w'',(Instr.indexAt 28 (.slice ab 1 cb) (.int .i64 0)).run Tryz.prog w''=.ok (.pointer (some (adOf ab 0))) w'')/\w'.cell? (adOf ab 0)=some (.bool b0)/\Q (.returned (.bool b0)) w'):=fun e w' h=>by
  obtain⟨bs,ab,cb,rfl,hB,hV,hb⟩:=h.yes hl rfl;obtain⟨h1,h2⟩:=qd3 kT.wf hV;have hb1:bs.length=1:=h1;have h0:0<bs.length:=by omega
  obtain⟨hz1,hz2⟩:=hB.at 0 h0;rw[hb1];exact⟨ab,cb,bs[0],rfl,fun w''=>hz1 1 w'' (by omega),hz2,HQ.out _ _ (h2 0 h0) hb⟩
 clear hQ hT hl kT HQ;go_enter Tryz.func13,Tryz.ntmps13
 go_wp2_with fail
 refine ja.mono ?_
 intro e w1 hq;obtain⟨ab,cb,b0,rfl,hix,hce,hR⟩:=HN.out e w1 hq;have HR:Hid _:=hR;clear ja hq HN hR;generalize adOf ab 0=ad at *;obtain⟨g1,g2,g3⟩:=ad;go_wp2;have:=HR.out
 cases b0<;>exact this
end Go.Proofs.YtailhklbmenaoaaGreatDoor
namespace Go.Proofs.YtailhklbmenaoaaGreatDoor
open Go.RowKit Go.Maps Go.Sort
theorem AutD.acc{B:Nat}{w:World}{bs:List Bool}{aA aG:Option Addr}{cG:Nat}{aN:Option Addr}{cN:Nat}{R:List Int}{N:List Gd}(h:AutD B w bs aA aG cG aN cN R N){q:Nat}(hq:q<bs.length):(∀w',(Instr.indexAt 28 (.slice aA bs.length bs.length) (.int .i64 (q:Int))).run Tryz.prog w'=.ok (.pointer (some (adOf aA q))) w')/\w.cell? (adOf aA q)=some (.bool (bs.getD q false)):=by
 obtain⟨h1,h2⟩:=h.bo.at q hq;refine⟨fun w'=>h1 bs.length w' hq,?_⟩
 rw[h2];simp[List.getD_eq_getElem?_getD,hq]
theorem q6w(n:Int)(a:Option Addr)(la ca:Nat)(xs:List Tk)(d:Option Addr)(m c:Nat)(zs:List Int)(w:World)(h64:Tab64 w)(h10:Tab10 w)(hA:TkSl w a la ca xs)(hL:LtSl w d m c zs):
  Calls Tryz.prog 3 #[.int .i64 n,.slice a la ca,.slice d m c] w (BR true w):=by
 have H64:=hiq h64;have H10:=hiq h10;have HA:=hiq hA;have HL:=hiq hL;have HLN:Hid (zs.length=m):=hL.sl.hlen;have j0:=q7H w h64 h10;clear h64 h10 hA hL;go_enter Tryz.func3,Tryz.ntmps3
 go_wp2_with fail
 refine j0.mono ?_
 rintro e w0 ⟨rfl,hb⟩
 have HB0:=hiq hb;clear j0 hb;by_cases c1:(40:Int)<(la:Int)
 case pos=>
  have c1b:decide ((40:Int)<(la:Int))=true:=decide_eq_true c1
  go_wp2_with fail
  go_ret
  exact⟨rfl,HB0.out⟩
 have c1b:decide ((40:Int)<(la:Int))=false:=decide_eq_false c1;by_cases c2:n<0
 case pos=>
  have c2b:decide (n<0)=true:=decide_eq_true c2
  go_wp2_with fail
  go_ret
  exact⟨rfl,HB0.out⟩
 have c2b:decide (n<0)=false:=decide_eq_false c2;by_cases c3:3<n
 case pos=>
  have c3b:decide (3<n)=true:=decide_eq_true c3
  go_wp2_with fail
  go_ret
  exact⟨rfl,HB0.out⟩
 have c3b:decide (3<n)=false:=decide_eq_false c3;by_cases c4:(16:Int)<(m:Int)
 case pos=>
  have c4b:decide ((16:Int)<(m:Int))=true:=decide_eq_true c4
  go_wp2_with fail
  go_ret
  exact⟨rfl,HB0.out⟩
 have c4b:decide ((16:Int)<(m:Int))=false:=decide_eq_false c4;obtain⟨k,rfl⟩:=Int.eq_ofNat_of_zero_le (by omega:0<=n)
 have hk3:k<=3:=by omega
 have hm16:m<=16:=by omega
 have hla:la<=40:=by omega
 have jt:=q7J k d m c zs w0 (by omega) (HL.out.up HB0.out) (by omega)
 clear c1 c2 c3 c4
 go_wp2_with fail
 refine jt.mono ?_
 rintro e w1 ⟨E1,rfl,hb1,hE1⟩
 have HB1:Hid _:=qd HB0.out hb1;clear jt hb1;by_cases e1:E1=0
 case neg=>
  have e1b:((E1:Int) != 0)=true:=by simpa using e1
  clear hE1
  go_wp2_with fail
  go_ret
  exact⟨rfl,HB1.out⟩
 subst e1;have HSM:Hid _:=hE1 rfl;clear hE1;have jc:=q4s a la ca xs w1 (HA.out.up HB1.out)
 go_wp2_with fail
 refine jc.mono ?_
 rintro e w2 ⟨rfl,hb2⟩
 have HB2:Hid _:=qd HB1.out hb2;clear jc hb2;by_cases e2:lookE xs 1=0
 case neg=>
  have e2b:((lookE xs 1:Int) != 0)=true:=by simp;omega
  generalize lookE xs 1=E2 at *
  go_wp2_with fail
  go_ret
  exact⟨rfl,HB2.out⟩
 have e2b:((lookE xs 1:Int) != 0)=false:=by rw[e2];rfl
 have HLK:=hiq e2;generalize hE2:lookE xs 1=E2 at e2b ⊢
 clear e2 hE2;have jk:=q2M a la ca xs w2 (HA.out.up HB2.out)
 go_wp2_with fail
 refine jk.mono ?_
 rintro e w3 ⟨rfl,hb3⟩
 have HB3:Hid _:=qd HB2.out hb3;clear jk hb3;by_cases e3:chkE xs=0
 case neg=>
  have e3b:((chkE xs:Int) != 0)=true:=by simp;omega
  generalize chkE xs=E3 at *
  go_wp2_with fail
  go_ret
  exact⟨rfl,HB3.out⟩
 have e3b:((chkE xs:Int) != 0)=false:=by rw[e3];rfl
 have HCK:=hiq e3;generalize hE3:chkE xs=E3 at e3b ⊢
 clear e3 hE3;have jo:=q5K (k:Int) a la ca xs w3 (HA.out.up HB3.out) (Tab64.up H64.out HB3.out) (Tab10.up H10.out HB3.out)
 go_wp2_with fail
 refine jo.mono ?_
 rintro e w4 ⟨hb4,⟨E,h0,hX,rfl⟩|⟨T,R,N,S,M,bs,aA,aG,cG,aN,cN,kT,hts,hX,hD,rfl,hAu,hbl,hfi⟩⟩
 ·have HB5:Hid (∀o,Below w.heap.size w (w4.alloc o)):=fun o=>qd (qd HB3.out hb4) (qc w4 o)
  have hE:=hX.bad HCK.out;have hne:((E:Int) != 0)=true:=by simp;omega
  clear jo hb4 hX h0;unfold autV;rcases hE with rfl|rfl|rfl|rfl
  all_goals
   go_wp2;go_ret
   exact⟨rfl,HB5.out _⟩
 ·subst hts
  have hxo:=hX.ok;have ekk:((k:Nat):Int).toNat=k:=Int.toNat_natCast k;rw[ekk]at hD;have hb04:=qd HB3.out hb4;obtain⟨w5,hw5⟩:∃w5,w5=w4.alloc (.cells #[.int .i64 (k:Int),.slice aA bs.length bs.length,.slice aG R.length cG,.slice aN N.length cN] 32 (0,0)):=⟨_,rfl⟩
  have b5:Below w4.heap.size w4 w5:=by rw[hw5];exact qc _ _
  have HV5:Hid (AuB w5 w4.heap.size (k:Int) aA bs.length bs.length aG R.length cG aN N.length cN):=by rw[hw5];exact q3C w4 _ aA _ _ aG _ cG aN _ cN
  have HW5:Hid _:=hw5;have HA5:Hid _:=hAu.up b5;have HB5:Hid _:=qd hb04 b5;have hdp:=hD.zero;have HD:Hid _:=hD;have HKT:Hid _:=kT;have HFI:Hid _:=hfi;have HBL:Hid _:=hbl;have ja:=q5q a la ca T.flat d m c zs w5 (HA.out.up HB5.out) (HL.out.up HB5.out)
  have HN:Hid (∀e w',AllR T.flat zs w5 e w'->∃(ab:Option Addr) (cb:Nat) (b0:Bool),e=.returned (.tuple #[.slice ab (m+1) cb,.int .i64 0])/\Below w5.heap.size w5 w'/\(∀w'',(Instr.indexAt 28 (.slice ab (m+1) cb) (.int .i64 0)).run Tryz.prog w''=.ok (.pointer (some (adOf ab 0))) w'')/\w'.cell? (adOf ab 0)=some (.bool b0)/\Hid (b0=true↔(semTr (zN zs) T).1 0)):=fun e w' h=>by
   obtain⟨bv,ab,cb,rfl,hB,hV,hb⟩:=h.yes HLK.out (by unfold trE;rw[if_neg (by have:=HLN.out;omega)])
   obtain⟨h1,h2⟩:=qd3 HKT.out.wf hV;rw[q1f,HLN.out]at h1;have h0:0<bv.length:=by omega
   obtain⟨hz1,hz2⟩:=hB.at 0 h0;rw[h1];exact⟨ab,cb,bv[0],rfl,hb,fun w''=>hz1 (m+1) w'' (by omega),hz2,h2 0 h0⟩
  clear jo hb4 hX hxo hb04 hw5 b5 hdp hD hfi hAu hbl kT;unfold autV
  go_wp2_with fail
  rw[<-HW5.out];refine ja.mono ?_
  intro e w6 hq;obtain⟨ab,cb,b0,rfl,hb6,hiz,hcz,HV0⟩:=HN.out e w6 hq;have HB6:Hid _:=qd HB5.out hb6;have HA6:Hid _:=HA5.out.up hb6;have HV6:Hid _:=HV5.out.up hb6;have jr:=qaT (k:Int) HA6.out HD.out (by omega) HBL.out d m c zs (HL.out.up HB6.out) HSM.out (by omega)
  have HZ6:Hid _:=hcz;obtain⟨x0,x1,x2,x3⟩:=HV6.out;clear ja hq HN hb6 hcz HA5 HV5 HB5 HW5;unfold autV at jr
  go_wp2_with fail
  refine jr.mono ?_
  rintro e w7 ⟨q,hrun,hqS,rfl,hb7⟩
  obtain⟨q',hr',hq',hacc⟩:=HD.out.acc HKT.out HSM.out;have hqq:q'=q:=by rw[hrun]at hr';injection hr' with h;exact h.symm
  subst hqq;have hqB:q'<bs.length:=by rw[HBL.out];exact hqS
  have h0B:0<bs.length:=by omega
  have hA7:=HA6.out.up hb7;obtain⟨hiq,hcq⟩:=hA7.acc hqB;obtain⟨hi0,hc0⟩:=hA7.acc h0B;have hi0':∀w',(Instr.indexAt 28 (.slice aA bs.length bs.length) (.int .i64 0)).run Tryz.prog w'=.ok (.pointer (some (adOf aA 0))) w':=fun w'=>hi0 w'
  have hgq:bs[q']? =some (bs.getD q' false):=by rw[List.getD_eq_getElem?_getD,lge hqB];rfl
  have hg0:bs[0]? =some (bs.getD 0 false):=by rw[List.getD_eq_getElem?_getD,lge h0B];rfl
  have hbq:b0=bs.getD q' false:=Bool.eq_iff_iff.2 (HV0.out.trans ((HFI.out q' _ hgq).trans hacc).symm);have HB7:Hid _:=qd HB6.out hb7;have HTK:Hid (TkSl w7 a la ca T.flat):=HA.out.up HB7.out
  have cS:∀d os,Calls Tryz.prog 13 #[.slice a la ca] (grow (redrawn w7 d) os) fun e w''=>e=.returned (.bool (bs.getD 0 false))/\∃p:Regrown,w''=grow (redrawn w7 p.d) p.os:=fun d os=>by
   have hb:=below_regrown w7 d os;refine (q8V HKT.out a la ca _ (HTK.out.up hb) HLK.out).mono ?_
   rintro e w'' ⟨b,rfl,h1,h2⟩
   have:b=bs.getD 0 false:=Bool.eq_iff_iff.2 (h1.trans ((HFI.out 0 _ hg0).trans (HD.out.acc0 HKT.out)).symm)
   rw[this];exact⟨rfl,regrown_of_below (qd hb h2)⟩
  have HE:Hid (∀d os,Below w.heap.size w (grow (redrawn w7 d) os)):=fun d os=>qd HB7.out (below_regrown w7 d os)
  have hz7:=qn HZ6.out hb7;obtain⟨y0,y1,y2,y3⟩:=HV6.out.up hb7;have k1:=cell_regrown y1;have kz:=cell_regrown hz7;have kq:=cell_regrown hcq;have k0:=cell_regrown hc0;rw[hbq]at kz;clear jr hb7 hA7 hcq hc0 hi0 hgq hg0 hbq hr' hacc hrun hz7 HV6 HA6 HB6 HZ6 HV0 HFI HD HKT HTK HLK HCK HSM HA HL H64 H10 x0 x1 x2 x3 y0 y1 y2 y3 hq' h0B;generalize bs.getD q' false=vq at *;generalize bs.getD 0 false=v0 at *;generalize adOf aA q'=aq at *;generalize adOf aA 0=a0 at *;generalize adOf ab 0=az at *;obtain⟨q1,q2,q3⟩:=aq;obtain⟨p1,p2,p3⟩:=a0;obtain⟨r1,r2,r3⟩:=az;generalize bs.length=Bn at *;generalize R.length=Rn at *;generalize N.length=Nn at *;have hlen:(((m+1:Nat):Int) != (m:Int)+1)=false:=by simp
  have hvq:(vq==vq)=true:=by simp
  have hv0:(v0==v0)=true:=by simp
  go_wp2_with fail
  refine wp_region_quiet_below (by kernel_rfl) (by kernel_rfl) ?_
  repeat (go_big_quiet_step (exact cS _ _))
  refine wpQuiet_nil ?_
  intro _ hw';obtain⟨⟨dq,osq⟩,hw''⟩:=hw';subst hw'';go_wp2;go_ret
  exact⟨by simp,HE.out _ _⟩
end Go.Proofs.YtailhklbmenaoaaGreatDoor
